package posting_test

import (
	"bytes"
	"math"
	"slices"
	"testing"

	"incipit/api"
	"incipit/posting"
)

// docs are documents' numbers at which something ends.
func docs() []uint32 {
	return []uint32{0, 1, 2, 3, 126, 127, 128, 129, 16383, 16384, 1<<31 - 3, 1<<31 - 2, 1<<31 - 1, 1 << 31, 1<<31 + 1, 1<<32 - 2, 1<<32 - 1}
}

// P15.1: the chapter's example.
func TestExample(t *testing.T) {
	first, second := of(3, 0, 5), of(300, 7)
	want := []byte{3, 2, 0, 5, 169, 2, 1, 7}
	b, err := posting.List(first, second)
	if !slices.Equal(b, want) || err != api.OK {
		t.Fatal(b, err)
	}
	b, err = posting.Put(nil, 0, first)
	if !slices.Equal(b, want[:4]) || err != api.OK {
		t.Fatal(b, err)
	}
	b, err = posting.Put(b, 3, second)
	if !slices.Equal(b, want) || err != api.OK {
		t.Fatal(b, err)
	}
	wantTold(t, want, 0, []ending{{4, first}, {8, second}})
	wantTold(t, want[4:], 3, []ending{{4, second}})
	wantFind(t, want, 300, &second)
	wantParse(t, want, []api.Posting{first, second}, true)
}

func TestLimits(t *testing.T) {
	if api.MaxDoc != 2147483647 || api.MaxPos != 1048576 || api.MaxPlace != 2000 || api.ErrPost != 150 {
		t.Error("limits")
	}
}

// P15.1: Doc above prev, and at most MaxDoc: of each two numbers at which something ends.
func TestCheckOfDocs(t *testing.T) {
	for _, prev := range docs() {
		for _, doc := range docs() {
			want := api.ErrPost
			if doc > prev && doc < 1<<31 {
				want = api.OK
			}
			wantCheck(t, "documents", prev, of(doc, 0), want)
			wantCheck(t, "documents", prev, of(doc, 3, 4, 1<<20), want)
			wantPut(t, prev, of(doc, 9))
		}
	}
	for prev := range uint32(300) {
		if prev > 0 {
			wantCheck(t, "one below", prev, of(prev-1, 0), api.ErrPost)
		}
		wantCheck(t, "prev itself", prev, of(prev, 0), api.ErrPost)
		wantCheck(t, "one above", prev, of(prev+1, 0), api.OK)
	}
	wantCheck(t, "0 behind none", 0, of(0, 1), api.ErrPost)
	wantCheck(t, "MaxDoc behind none", 0, of(api.MaxDoc, 1), api.OK)
	wantCheck(t, "MaxDoc and one more", 0, of(api.MaxDoc+1, 1), api.ErrPost)
	wantCheck(t, "behind the last one but one", api.MaxDoc-1, of(api.MaxDoc, 1), api.OK)
	wantCheck(t, "behind MaxDoc", api.MaxDoc, of(api.MaxDoc+1, 1), api.ErrPost)
	for _, doc := range docs() {
		wantCheck(t, "behind the greatest there is", math.MaxUint32, of(doc, 1), api.ErrPost)
	}
}

// P15.1: from one position to MaxPlace.
func TestCheckOfHowManyPositions(t *testing.T) {
	for n := range 2300 {
		want := api.OK
		if n < 1 || n > 2000 {
			want = api.ErrPost
		}
		wantCheck(t, "so many positions", 6, api.Posting{Doc: 7, Pos: row(0, 1, n)}, want)
		wantCheck(t, "so many positions, far apart", 6, api.Posting{Doc: 7, Pos: row(40, 400, n)}, want)
	}
	for _, n := range []int{65536, 65537, 65536 + 2000, 100000} {
		wantCheck(t, "far too many", 6, api.Posting{Doc: 7, Pos: row(0, 1, n)}, api.ErrPost)
	}
	wantCheck(t, "nil", 6, api.Posting{Doc: 7}, api.ErrPost)
	wantCheck(t, "empty", 6, api.Posting{Doc: 7, Pos: []int{}}, api.ErrPost)
	wantCheck(t, "the zero value", 0, api.Posting{}, api.ErrPost)
}

// P15.1: positions from 0 to MaxPos, at the first, in the midst and at the last place.
func TestCheckOfPositions(t *testing.T) {
	for _, x := range []struct {
		pos  int
		want api.Errno
	}{
		{math.MinInt, api.ErrPost}, {math.MinInt + 1, api.ErrPost}, {-1 << 32, api.ErrPost}, {-1<<32 + 5, api.ErrPost}, {-2, api.ErrPost}, {-1, api.ErrPost},
		{0, api.OK}, {1, api.OK}, {127, api.OK}, {1<<20 - 1, api.OK}, {1 << 20, api.OK},
		{1<<20 + 1, api.ErrPost}, {1<<20 + 2, api.ErrPost}, {1 << 31, api.ErrPost}, {1 << 32, api.ErrPost}, {1<<32 + 5, api.ErrPost}, {math.MaxInt - 1, api.ErrPost}, {math.MaxInt, api.ErrPost},
	} {
		wantCheck(t, "a position alone", 0, of(1, x.pos), x.want)
		wantPut(t, 0, of(1, x.pos))
		if x.pos > 0 {
			wantCheck(t, "behind 0", 0, of(1, 0, x.pos), x.want)
		}
		if x.pos > 50 {
			wantCheck(t, "the last one of many", 0, of(1, append(row(0, 1, 50), x.pos)...), x.want)
			wantPut(t, 0, of(1, append(row(0, 1, 50), x.pos)...))
		}
		if x.want == api.ErrPost {
			wantCheck(t, "the second one of three", 0, of(1, 3, x.pos, 1<<20), api.ErrPost)
			wantCheck(t, "ahead of one that may be", 0, of(1, x.pos, 7), api.ErrPost)
		}
	}
}

// P15.1: positions that do not rise, and two that are the same, at each place.
func TestCheckOfTheOrder(t *testing.T) {
	for n := 2; n < 60; n++ {
		for i := range n - 1 {
			swapped, twice := row(5, 3, n), row(5, 3, n)
			swapped[i], swapped[i+1] = swapped[i+1], swapped[i]
			twice[i+1] = twice[i]
			wantCheck(t, "two the wrong way round", 0, api.Posting{Doc: 1, Pos: swapped}, api.ErrPost)
			wantCheck(t, "one twice", 0, api.Posting{Doc: 1, Pos: twice}, api.ErrPost)
		}
		if far := row(5, 3, n); n > 2 {
			far[0], far[n-1] = far[n-1], far[0]
			wantCheck(t, "the first and the last one", 0, api.Posting{Doc: 1, Pos: far}, api.ErrPost)
		}
		wantCheck(t, "rising by one", 0, api.Posting{Doc: 1, Pos: row(0, 1, n)}, api.OK)
	}
	last := row(0, 1, 2000)
	last[1999] = 1998
	wantCheck(t, "the last one of MaxPlace", 0, api.Posting{Doc: 1, Pos: last}, api.ErrPost)
	last[1999] = 0
	wantCheck(t, "the last one of MaxPlace", 0, api.Posting{Doc: 1, Pos: last}, api.ErrPost)
	wantCheck(t, "0 twice", 0, of(1, 0, 0), api.ErrPost)
	wantCheck(t, "MaxPos twice", 0, of(1, 1<<20, 1<<20), api.ErrPost)
}

// P15.1: the bytes of numbers of as many bytes as there may be, each at the last one of so many and at the next.
func TestPutOfNumbers(t *testing.T) {
	for _, x := range []struct {
		prev uint32
		p    api.Posting
		want []byte
	}{
		{0, of(1, 0), []byte{1, 1, 0}},
		{0, of(127, 0), []byte{127, 1, 0}},
		{0, of(128, 0), []byte{128, 1, 1, 0}},
		{9, of(136, 0), []byte{127, 1, 0}},
		{9, of(137, 0), []byte{128, 1, 1, 0}},
		{0, of(16383, 0), []byte{255, 127, 1, 0}},
		{0, of(16384, 0), []byte{128, 128, 1, 1, 0}},
		{0, of(2097151, 0), []byte{255, 255, 127, 1, 0}},
		{0, of(2097152, 0), []byte{128, 128, 128, 1, 1, 0}},
		{0, of(268435455, 0), []byte{255, 255, 255, 127, 1, 0}},
		{0, of(268435456, 0), []byte{128, 128, 128, 128, 1, 1, 0}},
		{0, of(1<<31-1, 0), []byte{255, 255, 255, 255, 7, 1, 0}},
		{1, of(1<<31-1, 0), []byte{254, 255, 255, 255, 7, 1, 0}},
		{1<<31 - 2, of(1<<31-1, 0), []byte{1, 1, 0}},
		{0, of(1, 127), []byte{1, 1, 127}},
		{0, of(1, 128), []byte{1, 1, 128, 1}},
		{0, of(1, 16383), []byte{1, 1, 255, 127}},
		{0, of(1, 16384), []byte{1, 1, 128, 128, 1}},
		{0, of(1, 1<<20), []byte{1, 1, 128, 128, 64}},
		{0, of(1, 0, 127), []byte{1, 2, 0, 127}},
		{0, of(1, 0, 128), []byte{1, 2, 0, 128, 1}},
		{0, of(1, 9, 136), []byte{1, 2, 9, 127}},
		{0, of(1, 9, 137), []byte{1, 2, 9, 128, 1}},
		{0, of(1, 9, 9+16383, 9+16383+16384), []byte{1, 3, 9, 255, 127, 128, 128, 1}},
		{0, of(1, 0, 1<<20), []byte{1, 2, 0, 128, 128, 64}},
		{0, of(1, 1<<20-1, 1<<20), []byte{1, 2, 255, 255, 63, 1}},
	} {
		for _, ahead := range [][]byte{nil, {}, {7}, bytes.Repeat([]byte{200, 3}, 40)} {
			b, err := posting.Put(ahead, x.prev, x.p)
			if want := slices.Concat(ahead, x.want); !slices.Equal(b, want) || err != api.OK {
				t.Errorf("Put(%v, %d, %v) answers %v, %d, not %v", ahead, x.prev, x.p, b, int(err), want)
			}
		}
		wantPut(t, x.prev, x.p)
	}
}

// P15.1: as many positions as one byte can say, one more, and as many as there may be.
func TestPutOfManyPositions(t *testing.T) {
	for _, n := range []int{1, 2, 126, 127, 128, 129, 1999, 2000} {
		for _, step := range []int{1, 127, 128, 524} {
			p := api.Posting{Doc: 5, Pos: row(3, step, n)}
			wantPut(t, 4, p)
			b, err := posting.Put(nil, 0, p)
			count := []byte{5, byte(n)}
			if n > 127 {
				count = []byte{5, byte(n%128) + 128, byte(n / 128)}
			}
			gap := []byte{byte(step)}
			if step > 127 {
				gap = []byte{byte(step%128) + 128, byte(step / 128)}
			}
			want := slices.Concat(count, []byte{3}, bytes.Repeat(gap, n-1))
			if !slices.Equal(b, want) || err != api.OK {
				t.Fatalf("%d positions, %d apart: %s, %d, not %s", n, step, text(b), int(err), text(want))
			}
		}
	}
	for _, n := range []int{0, 2001, 2048, 70000} {
		wantPut(t, 4, api.Posting{Doc: 5, Pos: row(3, 1, n)})
	}
}

// P15.1, R2: Put of postings that may not be answers nothing beside the error, whatever stands ahead.
func TestPutOfPostingsThatMayNotBe(t *testing.T) {
	for _, x := range mayNotBe() {
		for _, ahead := range [][]byte{nil, {}, {1, 1, 0}, make([]byte, 9, 90)} {
			if b, err := posting.Put(ahead, 10, x); b != nil || err != api.ErrPost {
				t.Errorf("Put of %s answers %v, %d", text(x), b, int(err))
			}
		}
		wantPut(t, 10, x)
	}
}

// mayNotBe are postings that may not be behind one of the document 10, each for one of the form's reasons.
func mayNotBe() []api.Posting {
	return []api.Posting{
		{},
		of(0, 1), of(9, 1), of(10, 1), of(1<<31, 1), of(1<<31+11, 1), of(1<<32-1, 1),
		of(11), {Doc: 11, Pos: []int{}}, {Doc: 11, Pos: row(0, 1, 2001)},
		of(11, -1), of(11, 1<<20+1), of(11, math.MaxInt), of(11, math.MinInt), of(11, 1<<32),
		of(11, 3, 3), of(11, 3, 2), of(11, 1, 2, 4, 4), of(11, 1, 2, 4, 3), of(11, 1, 1<<20+1), of(11, 5, -5), of(11, 5, 1<<32+6),
	}
}

// P15.1: List of no postings, of one, and of many.
func TestListOfPostings(t *testing.T) {
	for _, none := range [][]api.Posting{nil, {}, make([]api.Posting, 0, 5)} {
		if b, err := posting.List(none...); len(b) != 0 || err != api.OK {
			t.Errorf("List of none answers %v, %d", b, int(err))
		}
		wantList(t, none)
	}
	if b, err := posting.List(); len(b) != 0 || err != api.OK {
		t.Errorf("List() answers %v, %d", b, int(err))
	}
	wantList(t, []api.Posting{of(1, 0)})
	wantList(t, []api.Posting{of(1<<31-1, 1<<20)})
	wantList(t, []api.Posting{of(1<<31-2, 1<<20), of(1<<31-1, 0)})
	var many []api.Posting
	var want []byte
	for i := range 500 {
		many = append(many, of(uint32(1+2*i), i, i+1))
		want = append(append(want, 2, 2), plainShort(uint64(i))...)
		want = append(want, 1)
		if !wantList(t, many) {
			t.Fatal("postings that rise have no List")
		}
	}
	want[0] = 1 // the first one is the first document above none
	if b, _ := posting.List(many...); !slices.Equal(b, want) {
		t.Error("List of many")
	}
}

// P15.1: List of postings of which one may not be, at each place: behind it nothing counts.
func TestListOfPostingsThatMayNotBe(t *testing.T) {
	for n := 1; n < 7; n++ {
		for i := range n {
			for _, bad := range append(mayNotBe(), of(uint32(10+5*i), 1)) {
				var l []api.Posting
				for k := range n {
					l = append(l, of(uint32(15+5*k), k))
				}
				if i == 0 && plainMayBe(0, bad) {
					continue // behind none it may be
				}
				l[i] = bad
				if wantList(t, l) {
					t.Errorf("the posting %s may be at place %d of %d", text(bad), i, n)
				}
			}
		}
	}
	for _, l := range [][]api.Posting{
		{of(0, 1)}, {of(5, 1), of(5, 2)}, {of(5, 1), of(4, 2)}, {of(5, 1), of(6, 2), of(6, 3)}, {of(5, 1), of(7, 2), of(6, 3), of(8, 4)}, {of(5, 1), of(1<<31-1, 2), of(1<<31, 3)}, {of(5, 1), {}},
	} {
		if wantList(t, l) {
			t.Errorf("List(%v)", l)
		}
	}
}

// P15.1: List is Put of each one behind the other; drawn postings, some that may not be.
func TestListIsPutAgainAndAgain(t *testing.T) {
	r := draws(1)
	met := 0
	for range 4000 {
		l := r.list(0, 8)
		if len(l) > 0 && r.below(3) == 0 {
			i, prev := r.below(len(l)), uint32(0)
			if i > 0 {
				prev = l[i-1].Doc
			}
			l[i] = r.spoilt(prev, l[i])
		}
		if wantList(t, l) {
			met++
		}
		b, prev, err := []byte(nil), uint32(0), api.OK
		for _, p := range l {
			wantPut(t, prev, p)
			if err == api.OK {
				b, err = posting.Put(b, prev, p)
			}
			prev = p.Doc
		}
		if list, listErr := posting.List(l...); !slices.Equal(list, b) || listErr != err {
			t.Fatalf("List(%s) answers %s, %d, Put again and again %s, %d", text(l), text(list), int(listErr), text(b), int(err))
		}
	}
	if met < 1000 || met > 3800 {
		t.Error("of the lists that were drawn too few are of one sort:", met)
	}
}

// P15.1, R4: Same of postings, that may be or not: Doc, how many positions, each of them.
func TestSame(t *testing.T) {
	for _, x := range []struct {
		a, b api.Posting
		want bool
	}{
		{of(3, 0, 5), of(3, 0, 5), true},
		{of(3, 0, 5), of(4, 0, 5), false},
		{of(3, 0, 5), of(3+1<<31, 0, 5), false},
		{of(3, 0, 5), of(3, 1, 5), false},
		{of(3, 0, 5), of(3, 0, 6), false},
		{of(3, 0, 5), of(3, 0), false},
		{of(3, 0, 5), of(3, 5), false},
		{of(3, 0, 5), of(3, 0, 5, 6), false},
		{of(3, 0, 5), of(3, 5, 0), false},
		{of(3, 0, 5), of(3, 0, 5, 5), false},
		{of(3, 0, 5), of(3, 0, 1<<32+5), false},
		{of(3, 0, 5), of(3), false},
		{of(3), api.Posting{Doc: 3, Pos: []int{}}, true},
		{of(3), of(4), false},
		{of(3), of(3, 0), false},
		{api.Posting{}, api.Posting{Pos: make([]int, 0, 4)}, true},
		{api.Posting{}, of(0, 0), false},
		{of(0, -1, -1), of(0, -1, -1), true},
		{of(0, -1, -1), of(0, -1, 1), false},
		{of(1<<32-1, math.MinInt, math.MaxInt, 3), of(1<<32-1, math.MinInt, math.MaxInt, 3), true},
		{of(1<<32-1, math.MinInt, math.MaxInt, 3), of(1<<32-1, math.MinInt, math.MaxInt, 4), false},
		{api.Posting{Doc: 1, Pos: row(0, 1, 5000)}, api.Posting{Doc: 1, Pos: row(0, 1, 5000)}, true},
		{api.Posting{Doc: 1, Pos: row(0, 1, 5000)}, api.Posting{Doc: 1, Pos: row(0, 1, 4999)}, false},
	} {
		if posting.Same(x.a, x.b) != x.want || posting.Same(x.b, x.a) != x.want {
			t.Errorf("Same(%s, %s) is not %v", text(x.a), text(x.b), x.want)
		}
		if !posting.Same(x.a, x.a) || !posting.Same(x.b, x.b) {
			t.Errorf("%s, or %s, is not itself", text(x.a), text(x.b))
		}
	}
	for i := range 40 {
		p, q := of(9, row(0, 2, 40)...), of(9, row(0, 2, 40)...)
		q.Pos[i]++
		if posting.Same(p, q) || posting.Same(q, p) {
			t.Error("postings that differ in one position, at the place", i)
		}
	}
}

// P15.1, R3: Clone, of postings that may be or not: either is written over, also behind its end, and the other is as it was.
func TestClone(t *testing.T) {
	for _, p := range append(mayNotBe(), of(3, 0, 5), of(1, 0), of(1<<31-1, row(0, 1, 2000)...), of(5, row(9, -3, 3000)...)) {
		p.Pos = append(append([]int(nil), p.Pos...), -7, -8)[:len(p.Pos)]
		was := cloned(p)
		c := posting.Clone(p)
		if !plainSame(c, was) || !plainSame(p, was) {
			t.Fatalf("Clone(%s) is %s", text(p), text(c))
		}
		scribble(c)
		if !plainSame(p, was) || p.Pos[:len(p.Pos)+1][len(p.Pos)] != -7 {
			t.Fatalf("%s was changed with its clone", text(was))
		}
		c = posting.Clone(p)
		scribble(p)
		if !plainSame(c, was) {
			t.Fatalf("the clone of %s was changed with it", text(was))
		}
	}
}

// scribble writes over all of a posting's positions, and over what room stands behind them.
func scribble(p api.Posting) {
	l := p.Pos[:cap(p.Pos)]
	for i := range l {
		l[i] = -99
	}
}
