package posting_test

import (
	"bytes"
	"fmt"
	"slices"
	"strings"
	"testing"

	"incipit/api"
	"incipit/posting"
)

// roomy is bytes with others behind them, in the same memory.
func roomy(b []byte) []byte { return append(slices.Clone(b), "behind it"...)[:len(b)] }

// roomyPosting is a posting with other positions behind its own, in the same memory.
func roomyPosting(p api.Posting) api.Posting {
	return api.Posting{Doc: p.Doc, Pos: append(slices.Clone(p.Pos), 70, 71, 72)[:len(p.Pos)]}
}

// roomyList is postings, each with such room, and others behind them.
func roomyList(l []api.Posting) []api.Posting {
	var c []api.Posting
	for _, p := range l {
		c = append(c, roomyPosting(p))
	}
	return append(c, of(77, 7), of(78, 8))[:len(l)]
}

// whole is all that stands in the memory of postings, and behind them.
func whole(l []api.Posting) string {
	var c []api.Posting
	for _, p := range l[:len(l)+2] {
		c = append(c, api.Posting{Doc: p.Doc, Pos: p.Pos[:cap(p.Pos)]})
	}
	return fmt.Sprint(c)
}

// given is what calls are handed.
type given struct {
	b    []byte
	at   int
	prev uint32
	l    []api.Posting
}

// drawGiven draws what calls are handed, mostly so that they are OK.
func (r *draws) drawGiven() given {
	g := given{prev: uint32(r.near(1 << 31)), l: r.list(0, 4)}
	if len(g.l) == 0 || r.below(3) > 0 {
		g.prev = 0
	}
	g.b, _ = plainList(0, g.l)
	if r.below(3) == 0 {
		g.b = r.bytesNear()
	}
	if len(g.l) > 0 && r.below(4) == 0 {
		i := r.below(len(g.l))
		g.l[i] = r.spoilt(0, g.l[i])
	}
	if r.below(3) == 0 {
		g.at = r.below(len(g.b)+2) - r.below(2)
	}
	return g
}

// roomyGiven is what calls are handed, with room behind all of it.
func roomyGiven(g given) given {
	g.b, g.l = roomy(g.b), roomyList(g.l)
	return g
}

// first is a posting of those that are handed in, the zero value without one.
func (g given) first() api.Posting {
	if len(g.l) == 0 {
		return api.Posting{}
	}
	return g.l[0]
}

// doc is a document that is mostly there.
func (g given) doc() uint32 {
	if len(g.l) == 0 {
		return g.prev
	}
	return g.l[len(g.l)-1].Doc
}

// answer is the memory that a call answers.
type answer struct {
	b []byte
	l []api.Posting
}

// calls are those that answer memory, by their names.
func calls() map[string]func(g given) answer {
	one := func(p api.Posting) answer { return answer{l: []api.Posting{p}} }
	return map[string]func(g given) answer{
		"Put":   func(g given) answer { b, _ := posting.Put(g.b, g.prev, g.first()); return answer{b: b} },
		"List":  func(g given) answer { b, _ := posting.List(g.l...); return answer{b: b} },
		"Take":  func(g given) answer { p, _, _ := posting.Take(g.b, g.at, g.prev); return one(p) },
		"Parse": func(g given) answer { l, _ := posting.Parse(g.b); return answer{l: l} },
		"Find":  func(g given) answer { p, _ := posting.Find(g.b, g.doc()); return one(p) },
		"Clone": func(g given) answer { return one(posting.Clone(g.first())) },
		"All": func(g given) answer {
			var a answer
			for _, p := range posting.All(g.b, g.prev) {
				a.l = append(a.l, p)
			}
			return a
		},
	}
}

// telling is all that each call answers, in one text.
func telling(g given) string {
	var l strings.Builder
	p := g.first()
	b, err := posting.Put(g.b, g.prev, p)
	fmt.Fprintln(&l, posting.Check(g.prev, p) == api.OK, b, int(err))
	b, err = posting.List(g.l...)
	fmt.Fprintln(&l, len(b), b, int(err))
	taken, end, err := posting.Take(g.b, g.at, g.prev)
	fmt.Fprintln(&l, taken, end, int(err))
	parsed, err := posting.Parse(g.b)
	fmt.Fprintln(&l, parsed, int(err), told(posting.All(g.b, g.prev), -1))
	found, is := posting.Find(g.b, g.doc())
	fmt.Fprintln(&l, found, is, posting.Same(p, found), posting.Clone(p))
	return l.String()
}

// R3: what is handed in is not written to, nor what stands behind it, by any call, nor by whoever writes over an answer.
func TestWhatIsHandedInStays(t *testing.T) {
	r := draws(8)
	for range 2000 {
		g := roomyGiven(r.drawGiven())
		wasBytes, wasList := bytes.Clone(g.b[:len(g.b)+9]), whole(g.l)
		telling(g)
		for _, call := range calls() {
			scribbleOver(call(g))
		}
		told(posting.All(g.b, g.prev), 1)
		if !bytes.Equal(g.b[:len(g.b)+9], wasBytes) {
			t.Fatalf("bytes were written to: %s, not %s", text(g.b[:len(g.b)+9]), text(wasBytes))
		}
		if whole(g.l) != wasList {
			t.Fatalf("postings were written to: %s, not %s", text(whole(g.l)), text(wasList))
		}
	}
}

// scribbleOver writes over all of an answer, and over what room it has behind it.
func scribbleOver(a answer) {
	b := a.b[:cap(a.b)]
	for i := range b {
		b[i] ^= 0x5a
	}
	for i := range a.l {
		scribble(a.l[i])
	}
	l := a.l[:cap(a.l)]
	for i := range l {
		l[i] = of(99, 99)
	}
}

// R3: what was answered is as it was, whatever is done with what was handed in, and with what a call answers then.
func TestAnswersStay(t *testing.T) {
	r := draws(9)
	for range 1000 {
		drawn := r.drawGiven()
		for name, call := range calls() {
			g := roomyGiven(drawn)
			got := call(g)
			was := answer{bytes.Clone(got.b), allCloned(got.l)}
			scribbleOver(call(g))
			scribbleOver(answer{g.b, g.l})
			if !bytes.Equal(got.b, was.b) || !slices.EqualFunc(got.l, was.l, plainSame) {
				t.Fatalf("an answer of %s was changed: %s, %s, not %s, %s", name, text(got.b), text(got.l), text(was.b), text(was.l))
			}
		}
	}
}

// R3: what is answered is nobody's else: it is written over, and told again as it was.
func TestAnswersAreNobodysElse(t *testing.T) {
	r := draws(10)
	for range 1000 {
		g := r.drawGiven()
		was := telling(g)
		for name, call := range calls() {
			scribbleOver(call(g))
			if got := telling(g); got != was {
				t.Fatalf("an answer of %s was written over, and told again: %s, not %s", name, got, was)
			}
		}
	}
}

// R3: no two postings of an answer share memory: what is written over one, or grows behind it, is not seen in another.
func TestPostingsOfAnAnswerShareNothing(t *testing.T) {
	r := draws(11)
	for range 1000 {
		g := r.drawGiven()
		for name, call := range calls() {
			got := call(g)
			for i := range got.l {
				was := allCloned(got.l)
				_ = append(got.l[i].Pos, -5, -6, -7)
				scribble(got.l[i])
				for k := range got.l {
					if k != i && !plainSame(got.l[k], was[k]) {
						t.Fatalf("%s: with %s was changed %s", name, text(was[i]), text(was[k]))
					}
				}
			}
		}
	}
}

// R2: with an error, or with false, every other result is the zero value.
func TestZeroBesideAnError(t *testing.T) {
	r := draws(12)
	errs := 0
	for range 4000 {
		g := r.drawGiven()
		if b, err := posting.Put(g.b, g.prev, g.first()); err != api.OK && b != nil {
			t.Fatalf("beside %d stands %s", int(err), text(b))
		}
		if b, err := posting.List(g.l...); err != api.OK && b != nil {
			t.Fatalf("beside %d stands %s", int(err), text(b))
		}
		if l, err := posting.Parse(g.b); err != api.OK && l != nil {
			t.Fatalf("beside %d stands %s", int(err), text(l))
		}
		if p, is := posting.Find(g.b, g.doc()); !is && !isZero(p) {
			t.Fatalf("beside false stands %s", text(p))
		}
		if p, end, err := posting.Take(g.b, g.at, g.prev); err != api.OK {
			errs++
			if !isZero(p) || end != 0 {
				t.Fatalf("beside %d stand %s, %d", int(err), text(p), end)
			}
		}
	}
	if errs < 500 || errs > 3800 {
		t.Error("of the calls too few are of one sort:", errs)
	}
}

// R4: empty and nil lists are the same.
func TestEmptyAndNil(t *testing.T) {
	var tellings []string
	for _, b := range [][]byte{nil, {}, make([]byte, 0, 9), []byte("behind")[:0]} {
		for _, pos := range [][]int{nil, {}, make([]int, 0, 9), row(1, 1, 2)[:0]} {
			one := ""
			for _, l := range [][]api.Posting{{of(5, pos...)}, {of(5, 1)}} {
				one += telling(given{b: b, l: l})
			}
			for _, none := range [][]api.Posting{nil, {}, make([]api.Posting, 0, 9)} {
				tellings = append(tellings, one+telling(given{b: b, l: none}))
			}
			for _, other := range [][]int{nil, {}, make([]int, 0, 9)} {
				if !posting.Same(of(5, pos...), of(5, other...)) {
					t.Error("empty and nil positions are not the same")
				}
			}
		}
	}
	for _, one := range tellings {
		if one != tellings[0] {
			t.Fatalf("empty and nil differ: %s, %s", one, tellings[0])
		}
	}
}

// R6: the same calls answer the same, whatever other calls stand between them.
func TestTheSameCallsAnswerTheSame(t *testing.T) {
	all := func(seed draws) string {
		var l strings.Builder
		for range 300 {
			l.WriteString(telling(seed.drawGiven()))
		}
		return l.String()
	}
	was := all(13)
	all(14)
	if all(13) != was {
		t.Error("the same calls answer something else")
	}
}

// THE BOUND: great lists, great bytes, and postings that claim, or have, far more than may be.
func TestGreatLists(t *testing.T) {
	var l []api.Posting
	for i := range 300_000 {
		l = append(l, of(uint32(1+3*i), i, i+200))
	}
	b, err := posting.List(l...)
	if err != api.OK {
		t.Fatal(int(err))
	}
	back, err := posting.Parse(b)
	if err != api.OK || !slices.EqualFunc(back, l, posting.Same) {
		t.Fatal("Parse of a great List", len(back), int(err))
	}
	at, prev := 0, uint32(0)
	for end, p := range posting.All(b, 0) { // Take of each place pays for its posting, not for all that is behind it
		taken, takenEnd, err := posting.Take(b, at, prev)
		if err != api.OK || takenEnd != end || !posting.Same(taken, p) {
			t.Fatal("Take at", at, int(err))
		}
		at, prev = end, p.Doc
	}
	if at != len(b) {
		t.Fatal("All of great bytes ends at", at)
	}
	wantFind(t, b, 3*299_999+1, &l[299_999])
	wantFind(t, b, 3*299_999, nil)
	if _, err := posting.Parse(append(b, 0)); err != api.ErrPost {
		t.Error("a great List, and a byte more", int(err))
	}
	huge := api.Posting{Doc: 5, Pos: row(0, 1, 5_000_000)}
	for range 1000 { // how many positions there are is asked first
		wantCheck(t, "a great posting", 0, huge, api.ErrPost)
	}
	claims := []byte{1, 255, 255, 255, 255, 15, 1}
	for range 200_000 {
		if _, _, err := posting.Take(claims, 0, 0); err != api.ErrPost {
			t.Fatal("2^32 - 1 positions", int(err))
		}
	}
	var longest []byte
	for i := range 200 {
		longest, _ = posting.Put(longest, uint32(i), api.Posting{Doc: uint32(i + 1), Pos: row(0, 524, 2000)})
	}
	if back, err := posting.Parse(longest); err != api.OK || len(back) != 200 {
		t.Error("many of the longest postings", len(back), int(err))
	}
}
