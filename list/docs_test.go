package list_test

import (
	"math"
	"slices"
	"testing"

	"incipit/api"
	"incipit/list"
)

// wantCheck asks for an answer of Check's.
func wantCheck(t *testing.T, what string, l []uint32, want api.Errno) {
	t.Helper()
	if got := list.Check(l); got != want {
		t.Fatalf("%s: Check(%s) answers %d, not %d", what, text(l), int(got), int(want))
	}
}

// rising is so many documents from the first one on, each so much above the one ahead.
func rising(first, step uint32, n int) []uint32 {
	l := make([]uint32, n)
	for i := range l {
		l[i] = first + uint32(i)*step
	}
	return l
}

// The chapter's example.
func TestExample(t *testing.T) {
	if l, err := list.And([]uint32{1, 3, 5}, []uint32{3, 4, 5}); !slices.Equal(l, []uint32{3, 5}) || err != api.OK {
		t.Error("And", l, int(err))
	}
	if l, err := list.Not([]uint32{1, 3, 5}, []uint32{3}); !slices.Equal(l, []uint32{1, 5}) || err != api.OK {
		t.Error("Not", l, int(err))
	}
	l, err := list.Phrase([]int{0, 2}, []api.Posting{of(7, 1, 4)}, []api.Posting{of(7, 3, 5)})
	wantPostings(t, "Phrase", l, err, []api.Posting{of(7, 1)}, api.OK)
}

func TestLimits(t *testing.T) {
	if api.MaxPhrase != 16 || api.ErrList != 160 || api.MaxPlace != 2000 || api.MaxPos != 1048576 || api.ErrArg != 1 || api.ErrLong != 3 {
		t.Error("limits")
	}
}

// P16.1: Check of no documents, of one, and of some that rise, whatever numbers they are.
func TestCheck(t *testing.T) {
	for _, l := range [][]uint32{
		nil, {}, make([]uint32, 0, 4), {0}, {1}, {math.MaxInt32}, {1 << 31}, {math.MaxUint32},
		{0, 1}, {0, math.MaxUint32}, {math.MaxUint32 - 1, math.MaxUint32}, {1<<31 - 1, 1 << 31}, {0, 1, 2, 3, 9, 1 << 31, math.MaxUint32},
		rising(0, 1, 5000), rising(3, 400000, 5000),
	} {
		wantCheck(t, "a list", l, api.OK)
	}
	for _, l := range [][]uint32{
		{0, 0}, {1, 1}, {1, 0}, {math.MaxUint32, math.MaxUint32}, {math.MaxUint32, 0}, {1 << 31, 1<<31 - 1}, {0, math.MaxUint32, math.MaxUint32}, {math.MaxUint32, 0, 1}, {5, 3, 9}, {1, 3, 2, 4}, {1, 2, 1}, {3, 1, 3},
	} {
		wantCheck(t, "no list", l, api.ErrList)
	}
}

// P16.1: Check of two that are the same, and of two that fall, at each place.
func TestCheckOfEachPlace(t *testing.T) {
	for n := 2; n < 70; n++ {
		wantCheck(t, "rising", rising(4, 2, n), api.OK)
		for i := range n - 1 {
			for _, x := range []uint32{4 + 2*uint32(i), 3 + 2*uint32(i), 0} { // the same, one less, the least there is
				l := rising(4, 2, n)
				l[i+1] = x
				wantCheck(t, "a fault behind the first place", l, api.ErrList)
			}
			l := rising(4, 2, n)
			l[i] = math.MaxUint32
			wantCheck(t, "a fault ahead of the last place", l, api.ErrList)
		}
	}
}

// P16.1: And, Or and Not of lists that the words tell, one by one.
func TestSets(t *testing.T) {
	type docs = []uint32
	for _, x := range []struct {
		lists   []docs
		and, or docs
	}{
		{nil, nil, nil},
		{[]docs{}, nil, nil},
		{[]docs{nil}, nil, nil},
		{[]docs{{}}, nil, nil},
		{[]docs{{0}}, docs{0}, docs{0}},
		{[]docs{{2, 7, math.MaxUint32}}, docs{2, 7, math.MaxUint32}, docs{2, 7, math.MaxUint32}},
		{[]docs{nil, {}}, nil, nil},
		{[]docs{{1, 2}, nil}, nil, docs{1, 2}},
		{[]docs{nil, {1, 2}}, nil, docs{1, 2}},
		{[]docs{{1, 3}, {2, 4}}, nil, docs{1, 2, 3, 4}},
		{[]docs{{1, 2}, {3, 4}}, nil, docs{1, 2, 3, 4}},
		{[]docs{{3, 4}, {1, 2}}, nil, docs{1, 2, 3, 4}},
		{[]docs{{1, 2, 3}, {1, 2, 3}}, docs{1, 2, 3}, docs{1, 2, 3}},
		{[]docs{{1, 2, 3, 4, 5}, {2, 4}}, docs{2, 4}, docs{1, 2, 3, 4, 5}},
		{[]docs{{2, 4}, {1, 2, 3, 4, 5}}, docs{2, 4}, docs{1, 2, 3, 4, 5}},
		{[]docs{{1, 9}, {0, 1, 2}}, docs{1}, docs{0, 1, 2, 9}},
		{[]docs{{0}, {math.MaxUint32}}, nil, docs{0, math.MaxUint32}},
		{[]docs{{0, math.MaxUint32}, {0, 5, math.MaxUint32}}, docs{0, math.MaxUint32}, docs{0, 5, math.MaxUint32}},
		{[]docs{{1, 2, 3}, {2, 3, 4}, {3, 4, 5}}, docs{3}, docs{1, 2, 3, 4, 5}},
		{[]docs{{1, 2}, {2, 3}, {1, 3}}, nil, docs{1, 2, 3}},
		{[]docs{{1, 2}, {2, 3}, nil}, nil, docs{1, 2, 3}},
		{[]docs{{1, 2}, {}, {1, 2}}, nil, docs{1, 2}},
		{[]docs{{9}, {9}, {9}, {9}, {9}}, docs{9}, docs{9}},
		{[]docs{{5}, {4}, {3}, {2}, {1}}, nil, docs{1, 2, 3, 4, 5}},
	} {
		wantDocs(t, "And of "+text(x.lists), func() ([]uint32, api.Errno) { return list.And(x.lists...) }, true, x.and)
		wantDocs(t, "Or of "+text(x.lists), func() ([]uint32, api.Errno) { return list.Or(x.lists...) }, true, x.or)
		wantSets(t, x.lists...)
	}
}

// P16.1: Not of lists that the words tell, one by one.
func TestNot(t *testing.T) {
	type docs = []uint32
	for _, x := range []struct{ all, l, want docs }{
		{nil, nil, nil},
		{docs{}, docs{1}, nil},
		{docs{1, 2}, nil, docs{1, 2}},
		{docs{1, 2}, docs{}, docs{1, 2}},
		{docs{1, 2, 3}, docs{2}, docs{1, 3}},
		{docs{1, 2, 3}, docs{1}, docs{2, 3}},
		{docs{1, 2, 3}, docs{3}, docs{1, 2}},
		{docs{1, 2, 3}, docs{1, 2, 3}, nil},
		{docs{2}, docs{1, 2, 3}, nil},
		{docs{1, 3}, docs{0, 2, 4}, docs{1, 3}},
		{docs{0, 1, math.MaxUint32}, docs{1}, docs{0, math.MaxUint32}},
		{docs{0, 1, math.MaxUint32}, docs{0, math.MaxUint32}, docs{1}},
		{docs{math.MaxUint32}, docs{0}, docs{math.MaxUint32}},
	} {
		wantDocs(t, "Not of "+text(x.all)+" and "+text(x.l), func() ([]uint32, api.Errno) { return list.Not(x.all, x.l) }, true, x.want)
		wantSets(t, x.all, x.l)
	}
}

// P16.1: And, Or and Not of every two lists of a few documents, and And and Or of every three.
func TestEverySet(t *testing.T) {
	subset := func(bits, first int) []uint32 {
		var l []uint32
		for i := range 6 {
			if bits>>i&1 > 0 {
				l = append(l, uint32(first+i))
			}
		}
		return l
	}
	for _, first := range []int{0, 1, 1<<32 - 6} {
		for a := range 64 {
			wantSets(t, subset(a, first))
			for b := range 64 {
				wantSets(t, subset(a, first), subset(b, first))
			}
		}
	}
	for i := range 1 << 12 {
		wantSets(t, subset(i&15, 3), subset(i>>4&15, 3), subset(i>>8, 3))
	}
}

// P16.1: drawn lists, no list, one, and many.
func TestDrawnSets(t *testing.T) {
	r := draws(1)
	met := 0
	for range 6000 {
		lists := make([][]uint32, r.below(6))
		width := 1 + r.below(40)
		for i := range lists {
			lists[i] = r.docs(width)
		}
		if !wantSets(t, lists...) {
			t.Fatal("drawn lists are none:", lists)
		}
		if l, _ := list.And(lists...); len(l) > 0 {
			met++
		}
	}
	if met < 1000 {
		t.Error("only so many have something in common:", met)
	}
}

// noLists are documents that are no list.
func noLists() [][]uint32 {
	return [][]uint32{{1, 1}, {2, 1}, {0, 0}, {1, 2, 2}, {1, 3, 2}, {5, 1, 9}, {math.MaxUint32, 0}, {math.MaxUint32, math.MaxUint32}, append(rising(1, 1, 40), 40)}
}

// P16.1, R2: what is no list at the first, in the midst, and at the last place; beside it others, some of them empty.
func TestWhatIsNoList(t *testing.T) {
	for _, bad := range noLists() {
		for n := range 5 {
			for at := range n + 1 {
				for _, other := range [][]uint32{nil, {}, {1}, {0, 1, 2, 3, 4, 5}, {math.MaxUint32}} {
					lists := make([][]uint32, n)
					for i := range lists {
						lists[i] = other
					}
					lists = slices.Insert(lists, at, bad)
					if wantSets(t, lists...) {
						t.Fatal("no list is taken for one:", lists)
					}
				}
			}
		}
		if l, err := list.Not(bad, nil); l != nil || err != api.ErrList {
			t.Error("Not", bad, "and nil", l, int(err))
		}
		if l, err := list.Not(nil, bad); l != nil || err != api.ErrList {
			t.Error("Not of nil and", bad, l, int(err))
		}
		if l, err := list.Not(bad, bad); l != nil || err != api.ErrList {
			t.Error("Not", bad, bad, l, int(err))
		}
	}
	r := draws(2)
	for range 3000 {
		lists := make([][]uint32, 1+r.below(5))
		for i := range lists {
			lists[i] = r.docs(1 + r.below(20))
		}
		at := r.below(len(lists))
		lists[at] = r.spoilt(lists[at])
		wantSets(t, lists...)
	}
}
