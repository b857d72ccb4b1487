package list_test

import (
	"fmt"
	"slices"
	"strings"
	"testing"

	"incipit/api"
	"incipit/list"
)

// given is what calls are handed.
type given struct {
	docs    [][]uint32
	l       []postings
	offsets []int
}

// drawGiven draws what calls are handed, mostly so that they are OK.
func (r *draws) drawGiven() given {
	g := given{docs: make([][]uint32, 2+r.below(3)), l: make([]postings, 1+r.below(4))}
	width := 1 + r.below(12)
	for i := range g.docs {
		g.docs[i] = r.docs(width)
	}
	for i := range g.l {
		g.l[i] = r.postings(1 + width/2)
	}
	g.offsets = r.offsets(len(g.l))
	switch r.below(8) {
	case 0:
		i := r.below(len(g.docs))
		g.docs[i] = r.spoilt(g.docs[i])
	case 1:
		i := r.below(len(g.l))
		g.l[i] = r.spoiltPostings(g.l[i])
	case 2:
		g.offsets[r.below(len(g.offsets))]--
	}
	return g
}

// behind is what stands in the memory behind a list that is handed in.
const behind = 77

// roomy is a given in memory of its own, with room behind all of it in which others stand.
func roomy(g given) given {
	var c given
	for _, l := range g.docs {
		c.docs = append(c.docs, append(slices.Clone(l), behind, behind)[:len(l)])
	}
	for _, l := range g.l {
		var own postings
		for _, p := range l {
			own = append(own, of(p.Doc, append(slices.Clone(p.Pos), behind, behind)[:len(p.Pos)]...))
		}
		c.l = append(c.l, append(own, of(behind, behind), of(behind, behind))[:len(l)])
	}
	c.offsets = append(slices.Clone(g.offsets), behind, behind)[:len(g.offsets)]
	return c
}

// whole is all that stands in a roomy given's memory.
func (g given) whole() string {
	var b strings.Builder
	for _, l := range g.docs {
		fmt.Fprintln(&b, len(l), l[:len(l)+2])
	}
	for _, l := range g.l {
		fmt.Fprintln(&b, len(l))
		for _, p := range l[:len(l)+2] {
			fmt.Fprintln(&b, p.Doc, len(p.Pos), p.Pos[:cap(p.Pos)])
		}
	}
	fmt.Fprintln(&b, g.offsets[:len(g.offsets)+2])
	return b.String()
}

// scribble writes over all of a given, and over what room it has.
func (g given) scribble() {
	for _, l := range g.docs {
		scribbleOver(answer{docs: l})
	}
	for _, l := range g.l {
		scribbleOver(answer{l: l})
	}
	for i := range g.offsets {
		g.offsets[i] = -5
	}
	clear(g.docs)
	clear(g.l)
}

// answer is the memory that a call answers.
type answer struct {
	docs []uint32
	l    postings
}

// scribbleOver writes over all of an answer, and over what room it has behind it.
func scribbleOver(a answer) {
	docs := a.docs[:cap(a.docs)]
	for i := range docs {
		docs[i] = 99
	}
	for _, p := range a.l {
		pos := p.Pos[:cap(p.Pos)]
		for i := range pos {
			pos[i] = -99
		}
	}
	l := a.l[:cap(a.l)]
	for i := range l {
		l[i] = of(99, 99)
	}
}

// kept is a copy of an answer that nobody else can change.
func kept(a answer) answer { return answer{slices.Clone(a.docs), cloned(a.l)} }

// sameAnswer is whether two answers are the same.
func sameAnswer(a, b answer) bool { return slices.Equal(a.docs, b.docs) && same(a.l, b.l) }

// calls are those that answer memory, by their names.
func calls() map[string]func(g given) answer {
	return map[string]func(g given) answer{
		"And":        func(g given) answer { l, _ := list.And(g.docs...); return answer{docs: l} },
		"And of one": func(g given) answer { l, _ := list.And(g.docs[0]); return answer{docs: l} },
		"Or":         func(g given) answer { l, _ := list.Or(g.docs...); return answer{docs: l} },
		"Or of one":  func(g given) answer { l, _ := list.Or(g.docs[0]); return answer{docs: l} },
		"Not":        func(g given) answer { l, _ := list.Not(g.docs[0], g.docs[1]); return answer{docs: l} },
		"Not none":   func(g given) answer { l, _ := list.Not(g.docs[0], nil); return answer{docs: l} },
		"All":        func(g given) answer { return answer{docs: told(list.All(g.docs[0]), -1)} },
		"Gather":     func(g given) answer { return answer{docs: list.Gather(list.All(g.docs[0]), 5)} },
		"Both":       func(g given) answer { return answer{docs: told(list.Both(g.docs[0], g.docs[1]), -1)} },
		"Docs":       func(g given) answer { return answer{docs: list.Docs(g.l[0])} },
		"Merge":      func(g given) answer { l, _ := list.Merge(g.l...); return answer{l: l} },
		"Merge of one": func(g given) answer {
			l, _ := list.Merge(g.l[0])
			return answer{l: l}
		},
		"Phrase":         func(g given) answer { l, _ := list.Phrase(g.offsets, g.l...); return answer{l: l} },
		"Phrase of one":  func(g given) answer { l, _ := list.Phrase([]int{0}, g.l[0]); return answer{l: l} },
		"Phrase of none": func(g given) answer { l, _ := list.Phrase(nil); return answer{l: l} },
	}
}

// telling is all that each call answers, in one text.
func telling(g given) string {
	var b strings.Builder
	for _, l := range g.docs {
		fmt.Fprintln(&b, int(list.Check(l)), told(list.All(l), -1))
	}
	docs, err := list.And(g.docs...)
	fmt.Fprintln(&b, len(docs), docs, int(err))
	docs, err = list.Or(g.docs...)
	fmt.Fprintln(&b, len(docs), docs, int(err))
	docs, err = list.Not(g.docs[0], g.docs[1])
	fmt.Fprintln(&b, len(docs), docs, int(err), told(list.Both(g.docs[0], g.docs[1]), -1))
	fmt.Fprintln(&b, list.Docs(g.l[0]), list.Gather(list.All(g.docs[0]), 3))
	l, err := list.Merge(g.l...)
	fmt.Fprintln(&b, len(l), l, int(err))
	l, err = list.Phrase(g.offsets, g.l...)
	fmt.Fprintln(&b, len(l), l, int(err))
	return b.String()
}

// R3: what is handed in is not written to, nor what stands behind it, by any call, nor by whoever writes over an answer.
func TestWhatIsHandedInStays(t *testing.T) {
	r := draws(40)
	for range 1500 {
		g := roomy(r.drawGiven())
		was := g.whole()
		telling(g)
		if got := g.whole(); got != was {
			t.Fatalf("what is handed in was written to: %s, not %s", got, was)
		}
		for name, call := range calls() {
			scribbleOver(call(g))
			if got := g.whole(); got != was {
				t.Fatalf("what is handed in was changed with the answer of %s: %s, not %s", name, got, was)
			}
		}
	}
}

// R3: what was answered is as it was, whatever is done with what was handed in, and with what a call answers then.
func TestAnswersStay(t *testing.T) {
	r := draws(41)
	for range 500 {
		drawn := r.drawGiven()
		for name, call := range calls() {
			g := roomy(drawn)
			got := call(g)
			was := kept(got)
			scribbleOver(call(g))
			g.scribble()
			if !sameAnswer(got, was) {
				t.Fatalf("an answer of %s was changed: %s, not %s", name, text(got), text(was))
			}
		}
	}
}

// R3: what is answered is nobody's else: it is written over, and told again as it was.
func TestAnswersAreNobodysElse(t *testing.T) {
	r := draws(42)
	for range 500 {
		g := r.drawGiven()
		was := telling(g)
		for name, call := range calls() {
			scribbleOver(call(g))
			if got := telling(g); got != was {
				t.Fatalf("an answer of %s was written over, and told again: %s, not %s", name, got, was)
			}
		}
	}
}

// R3: no two postings of an answer share memory: what is written over one, or grows behind it, is not seen in another.
func TestPostingsOfAnAnswerShareNothing(t *testing.T) {
	r := draws(43)
	for range 500 {
		g := r.drawGiven()
		for name, call := range calls() {
			got := call(g)
			for i := range got.l {
				was := cloned(got.l)
				_ = append(got.l[i].Pos, -5, -6, -7)
				scribbleOver(answer{l: got.l[i : i+1 : i+1]})
				was[i] = of(99, 99)
				if !same(got.l, was) {
					t.Fatalf("%s: with the posting %d others were changed: %s, not %s", name, i, text(got.l), text(was))
				}
			}
		}
	}
}

// R2: each error, beside which nothing is answered.
func TestZeroBesideAnError(t *testing.T) {
	r := draws(44)
	errs := map[api.Errno]int{}
	for range 4000 {
		g := r.drawGiven()
		if r.below(8) == 0 {
			g.l = append(g.l, postings{{Doc: 1, Pos: row(0, 2, 2000)}}, postings{{Doc: 1, Pos: row(1, 2, 2000)}})
		}
		for _, call := range []docsCall{
			func() ([]uint32, api.Errno) { return list.And(g.docs...) },
			func() ([]uint32, api.Errno) { return list.Or(g.docs...) },
			func() ([]uint32, api.Errno) { return list.Not(g.docs[0], g.docs[1]) },
		} {
			l, err := call()
			if errs[err]++; err != api.OK && l != nil {
				t.Fatalf("beside %d stands %s", int(err), text(l))
			}
		}
		merged, err := list.Merge(g.l...)
		if errs[err]++; err != api.OK && merged != nil {
			t.Fatalf("beside %d stands %s", int(err), text(merged))
		}
		found, err := list.Phrase(g.offsets, g.l...)
		if errs[err]++; err != api.OK && found != nil {
			t.Fatalf("beside %d stands %s", int(err), text(found))
		}
	}
	for _, err := range []api.Errno{api.OK, api.ErrArg, api.ErrLong, api.ErrList} {
		if errs[err] < 200 {
			t.Errorf("the error %d is met but %d times", int(err), errs[err])
		}
	}
	if len(errs) != 4 {
		t.Error("errors that the chapter does not name:", errs)
	}
}

// R4: empty and nil lists are the same.
func TestEmptyAndNil(t *testing.T) {
	var tellings []string
	none := [][]uint32{nil, {}, make([]uint32, 0, 9), rising(1, 1, 3)[:0]}
	for _, a := range none {
		for _, b := range none {
			for _, l := range []postings{nil, {}, make(postings, 0, 9), postings{of(5, 1)}[:0]} {
				tellings = append(tellings, telling(given{docs: [][]uint32{a, b}, l: []postings{l}, offsets: []int{0}}))
			}
		}
	}
	for _, lists := range [][][]uint32{nil, {}} {
		and, _ := list.And(lists...)
		or, _ := list.Or(lists...)
		if len(and) != 0 || len(or) != 0 {
			t.Error("And and Or of no lists", and, or)
		}
	}
	for _, one := range tellings {
		if one != tellings[0] {
			t.Fatalf("empty and nil differ: %s, %s", one, tellings[0])
		}
	}
	for _, offsets := range [][]int{nil, {}} {
		for _, lists := range [][]postings{nil, {}} {
			if l, err := list.Phrase(offsets, lists...); l != nil || err != api.ErrArg {
				t.Error("Phrase of none", l, int(err))
			}
		}
	}
}

// R6: the same calls answer the same, whatever other calls stand between them.
func TestTheSameCallsAnswerTheSame(t *testing.T) {
	all := func(seed draws) string {
		var b strings.Builder
		for range 300 {
			b.WriteString(telling(seed.drawGiven()))
		}
		return b.String()
	}
	was := all(45)
	all(46)
	if all(45) != was {
		t.Error("the same calls answer something else")
	}
}

// THE BOUND: great lists of documents, and many of them, beside great and small ones.
func TestGreatLists(t *testing.T) {
	const n = 1_000_000
	twos, threes := rising(0, 2, n), rising(0, 3, n)
	sixes := rising(0, 6, (2*n+5)/6)
	and := set(t)(list.And(twos, threes))
	not := set(t)(list.Not(twos, threes))
	or := set(t)(list.Or(twos, threes))
	if !slices.Equal(and, sixes) || !slices.Equal(told(list.Both(twos, threes), -1), sixes) {
		t.Error("And of great lists", len(and))
	}
	if len(not) != n-len(sixes) || len(or) != 2*n-len(sixes) || !plainIs(not) || !plainIs(or) {
		t.Error("Not and Or of great lists", len(not), len(or))
	}
	many := [][]uint32{twos}
	for i := range uint32(100_000) {
		many = append(many, []uint32{2 * i})
	}
	if l := set(t)(list.Or(many...)); !slices.Equal(l, twos) {
		t.Error("Or of many lists", len(l))
	}
	if l := set(t)(list.And(many...)); len(l) != 0 {
		t.Error("And of many lists", len(l))
	}
	many = slices.Repeat([][]uint32{{4}}, 100_000)
	for _, at := range []int{0, 50_000, 100_000} {
		if l := set(t)(list.And(slices.Insert(slices.Clone(many), at, twos)...)); !slices.Equal(l, []uint32{4}) {
			t.Error("And of one great list among many small ones", at, len(l))
		}
	}
	if l := set(t)(list.Not(twos, []uint32{0})); len(l) != n-1 {
		t.Error("Not of a great list and a small one", len(l))
	}
	if l := set(t)(list.Not([]uint32{0}, twos)); len(l) != 0 {
		t.Error("Not of a small list and a great one", len(l))
	}
}

// THE BOUND: great lists of postings, many lists, and postings with as many positions as there may be, and far more.
func TestGreatPostings(t *testing.T) {
	var odd, even postings
	for i := range 200_000 {
		odd = append(odd, of(uint32(2*i+1), i, i+2))
		even = append(even, of(uint32(2*i+2), i))
	}
	l, err := list.Merge(odd, even, odd)
	if err != api.OK || len(l) != 400_000 || !same(l[:2], postings{of(1, 0, 2), of(2, 0)}) {
		t.Error("Merge of great lists", len(l), int(err))
	}
	if l, err = list.Phrase([]int{0, 2}, odd, odd); err != api.OK || len(l) != 200_000 || len(list.Docs(l)) != 200_000 {
		t.Error("Phrase of great lists", len(l), int(err))
	}
	many := []postings{odd}
	for i := range 100_000 {
		many = append(many, postings{of(uint32(2*i+1), 7)})
	}
	if l, err = list.Merge(many...); err != api.OK || len(l) != 200_000 {
		t.Error("Merge of many lists", len(l), int(err))
	}
	many = nil
	for i := range 100_000 {
		many = append(many, postings{of(9, i%2000)})
	}
	if l, err = list.Merge(many...); err != api.OK || !same(l, postings{{Doc: 9, Pos: row(0, 1, 2000)}}) {
		t.Error("Merge of many lists of one document", len(l), int(err))
	}
	var full postings
	for i := range 300 {
		full = append(full, api.Posting{Doc: uint32(i + 1), Pos: row(0, 1, 2000)})
	}
	if l, err = list.Phrase(row(0, 1, 16), slices.Repeat([]postings{full}, 16)...); err != api.OK || len(l) != 300 || len(l[299].Pos) != 1985 {
		t.Error("Phrase of as much as there may be", len(l), int(err))
	}
	huge := postings{{Doc: 5, Pos: row(0, 1, 3_000_000)}}
	for range 1000 { // how many positions there are is asked first
		if _, err = list.Merge(huge); err != api.ErrList {
			t.Fatal("a posting with far too many positions", int(err))
		}
	}
}
