package list_test

import (
	"iter"
	"math"
	"slices"
	"testing"

	"incipit/list"
)

// wantTold asks what an iterator tells: all of it, up to each document of it, and all again.
func wantTold(t *testing.T, what string, all iter.Seq[uint32], want []uint32) {
	t.Helper()
	for range 2 {
		if got := told(all, -1); !slices.Equal(got, want) {
			t.Fatalf("%s tells %s, not %s", what, text(got), text(want))
		}
	}
	for n := range min(len(want), 60) + 1 {
		if got := told(all, n); !slices.Equal(got, want[:n]) {
			t.Fatalf("%s, left behind %d, tells %s, not %s", what, n, text(got), text(want[:n]))
		}
		if got := told(all, -1); !slices.Equal(got, want) {
			t.Fatalf("%s, gone through again, tells %s, not %s", what, text(got), text(want))
		}
	}
}

// P16.2: All of lists that rise, and of what doesn't, as it stands.
func TestAll(t *testing.T) {
	for _, l := range append(noLists(), nil, []uint32{}, make([]uint32, 0, 3), []uint32{0}, []uint32{math.MaxUint32}, []uint32{0, 1, math.MaxUint32}, rising(2, 3, 3000), []uint32{9, 8, 7, 7, 0, 0, 7}) {
		wantTold(t, "All of "+text(l), list.All(l), l)
	}
}

// P16.2: an iterator that is gone through within its own ranging goes its own way.
func TestToldWithin(t *testing.T) {
	l := []uint32{4, 6, 9}
	for _, all := range []iter.Seq[uint32]{list.All(l), list.Both(l, l)} {
		var got []uint32
		for a := range all {
			for b := range all {
				got = append(got, 10*a+b)
			}
		}
		if !slices.Equal(got, []uint32{44, 46, 49, 64, 66, 69, 94, 96, 99}) {
			t.Error("within itself", got)
		}
	}
}

// asking tells 0, 1, 2 and so on, up to so many, without an end if that is below 0; it counts how many it is asked for.
func asking(most int, asked *int) iter.Seq[uint32] {
	return func(yield func(uint32) bool) {
		for i := uint32(0); int(i) != most; i++ {
			*asked++
			if !yield(i) {
				return
			}
		}
	}
}

// P16.2: Gather of most below 1, 1, as many as there are, and more: so many are told, and no more are asked for.
func TestGather(t *testing.T) {
	for count := range 70 {
		for _, most := range []int{math.MinInt, math.MinInt + 1, -1 << 32, -1, 0, 1, 2, count - 1, count, count + 1, 1 << 32, math.MaxInt - 1, math.MaxInt} {
			asked, want := 0, rising(0, 1, max(0, min(count, most)))
			if got := list.Gather(asking(count, &asked), most); !slices.Equal(got, want) || asked != len(want) {
				t.Fatalf("Gather of %d, %d answers %s, and asks for %d", count, most, text(got), asked)
			}
			if got := list.Gather(nil, most); len(got) != 0 {
				t.Fatalf("Gather(nil, %d) answers %s", most, text(got))
			}
			if got := list.Gather(list.All(rising(7, 2, count)), most); !slices.Equal(got, rising(7, 2, len(want))) {
				t.Fatalf("Gather of All, %d, answers %s", most, text(got))
			}
		}
	}
	for most := range 100 {
		asked := 0
		if got := list.Gather(asking(-1, &asked), most); !slices.Equal(got, rising(0, 1, most)) || asked != most {
			t.Fatalf("Gather without an end, %d, answers %s, and asks for %d", most, text(got), asked)
		}
	}
	for most := -3; most < 1; most++ {
		called := false
		list.Gather(func(func(uint32) bool) { called = true }, most)
		if called {
			t.Errorf("Gather of %d asks for some", most)
		}
	}
}

// P16.2: Gather takes what does not rise as it stands.
func TestGatherOfAnything(t *testing.T) {
	for _, l := range noLists() {
		for most := range len(l) + 3 {
			if got := list.Gather(list.All(l), most); !slices.Equal(got, l[:min(most, len(l))]) {
				t.Fatalf("Gather of %s, %d, answers %s", text(l), most, text(got))
			}
		}
	}
}

// R1: iterators that panic, that go on though no more is asked for, and that hide a panic: no call panics, what was told ahead of it counts.
func TestGatherOfIteratorsThatMisbehave(t *testing.T) {
	panics := func(yield func(uint32) bool) {
		for i := range uint32(5) {
			if !yield(i) {
				return
			}
		}
		panic("an iterator's own")
	}
	goesOn := func(yield func(uint32) bool) {
		for i := uint32(0); ; i++ {
			yield(i)
		}
	}
	catches := func(yield func(uint32) bool) {
		defer func() { _ = recover() }()
		for i := range uint32(50) {
			yield(i)
		}
	}
	for most := -1; most < 10; most++ {
		want := rising(0, 1, max(0, most))
		if got := list.Gather(panics, most); !slices.Equal(got, want[:min(len(want), 5)]) {
			t.Errorf("Gather of one that panics, %d, answers %v", most, got)
		}
		if got := list.Gather(goesOn, most); !slices.Equal(got, want) {
			t.Errorf("Gather of one that goes on, %d, answers %v", most, got)
		}
		if got := list.Gather(catches, most); !slices.Equal(got, want) {
			t.Errorf("Gather of one that catches, %d, answers %v", most, got)
		}
	}
}

// P16.2: Both of two lists, and of what is none.
func TestBoth(t *testing.T) {
	r := draws(3)
	for range 1500 {
		width := 1 + r.below(30)
		a, b := r.docs(width), r.docs(width)
		wantTold(t, "Both of "+text(a)+" and "+text(b), list.Both(a, b), plainAnd([][]uint32{a, b}))
		for _, bad := range [][]uint32{r.spoilt(a), r.spoilt(b)} {
			wantTold(t, "Both of no list", list.Both(bad, b), nil)
			wantTold(t, "Both of no list", list.Both(a, bad), nil)
		}
	}
	for _, bad := range noLists() {
		for _, other := range append(noLists(), nil, []uint32{}, []uint32{1}, rising(0, 1, 9)) {
			wantTold(t, "Both of no list", list.Both(bad, other), nil)
			wantTold(t, "Both of no list", list.Both(other, bad), nil)
		}
	}
	for _, none := range [][]uint32{nil, {}} {
		wantTold(t, "Both of none", list.Both(none, rising(0, 1, 9)), nil)
		wantTold(t, "Both of none", list.Both(rising(0, 1, 9), none), nil)
		wantTold(t, "Both of none", list.Both(none, none), nil)
	}
	ends := []uint32{0, math.MaxUint32}
	wantTold(t, "Both of the ends", list.Both(ends, []uint32{0, 3, math.MaxUint32}), ends)
	wantTold(t, "Both of great ones", list.Both(rising(0, 2, 3000), rising(0, 3, 2000)), rising(0, 6, 1000))
}

// R3: what is written over a list behind the call, ahead of the ranging or amid it, is not told.
func TestTellingIsNotChanged(t *testing.T) {
	for change := -1; change < 5; change++ {
		for _, both := range []bool{false, true} {
			a, b := rising(10, 1, 5), rising(9, 1, 9)
			all := list.All(a)
			if both {
				all = list.Both(a, b)
			}
			for range 2 {
				var got []uint32
				if change < 0 {
					clear(a)
					clear(b)
				}
				for doc := range all {
					got = append(got, doc)
					if len(got)-1 == change {
						clear(a)
						clear(b)
					}
				}
				if !slices.Equal(got, rising(10, 1, 5)) {
					t.Errorf("changed at %d, both %v: %v is told", change, both, got)
				}
			}
		}
	}
}
