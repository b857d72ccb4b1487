package extent_test

import (
	"math"
	"slices"
	"testing"

	"incipit/api"
	"incipit/extent"
)

// notMade are sets that no call made.
func notMade() []*extent.Set {
	var zero extent.Set
	return []*extent.Set{nil, {}, new(extent.Set), &zero, (*extent.Set)(nil).Clone(), new(extent.Set).Not()}
}

// P7.2, R5: of a set that no call made calls with an error answer ErrMade, First and Run -1, Not and Clone nil, all others the zero value.
func TestSetsThatNoCallMade(t *testing.T) {
	for i, s := range notMade() {
		for range 2 { // the calls have made nothing of it
			for _, p := range append([]int{0, 1, 7, 63, 64, 2047}, farPages...) {
				wantErr(t, "Add", s.Add(p), api.ErrMade)
				wantErr(t, "Drop", s.Drop(p), api.ErrMade)
				if s.Has(p) || s.First(p) != -1 || s.Run(p) != -1 {
					t.Errorf("set %d, page %d: %v, %d, %d", i, p, s.Has(p), s.First(p), s.Run(p))
				}
			}
			if s.Size() != 0 || s.Len() != 0 || s.Not() != nil || s.Clone() != nil {
				t.Errorf("set %d: %d, %d, %v, %v", i, s.Size(), s.Len(), s.Not(), s.Clone())
			}
			for p := range s.All() {
				t.Errorf("set %d: All tells %d", i, p)
			}
			for p, n := range s.Runs() {
				t.Errorf("set %d: Runs tells %d, %d", i, p, n)
			}
		}
	}
}

// P7.1, R5: sets that no call made are the same as each other, and as no set that was made.
func TestSameOfSetsThatNoCallMade(t *testing.T) {
	for _, a := range notMade() {
		for _, b := range notMade() {
			wantSame(t, "no call made both", a, b, true)
		}
		for _, size := range sizes {
			wantSame(t, "an empty one", a, made(t, size), false)
			wantSame(t, "a full one", a, madeAs(t, full(size)), false)
		}
	}
}

// R5: what is not made stays so; a set of New's that was refused is none.
func TestRefusedSets(t *testing.T) {
	s, e := extent.New(0)
	wantErr(t, "New(0)", e, api.ErrArg)
	wantErr(t, "Add", s.Add(0), api.ErrMade)
	wantSame(t, "a refused one and nil", s, nil, true)
}

// R1: no call panics, and each ends, at whatever numbers.
func TestFarNumbers(t *testing.T) {
	numbers := append([]int{0, 1, 63, 64, 65, math.MaxInt32, math.MinInt32, math.MaxUint32}, farPages...)
	for _, s := range []*extent.Set{nil, {}, made(t, 1), made(t, 64), madeAs(t, full(65)), madeAs(t, full(api.MaxPages))} {
		for _, n := range numbers {
			other, e := extent.New(n)
			if (e == api.OK) != (n >= 1 && n <= api.MaxPages) || (other != nil) != (e == api.OK) {
				t.Errorf("New(%d) answers %d", n, int(e))
			}
			size := s.Size()
			there := n >= 0 && n < size
			if s.Has(n) && !there || s.First(n) >= size && size > 0 || s.Run(n) >= size && size > 0 {
				t.Errorf("%d of %d: Has %v, First %d, Run %d", n, size, s.Has(n), s.First(n), s.Run(n))
			}
			if added := s.Clone(); size > 0 && there == (added.Add(n) == api.ErrArg) {
				t.Errorf("Add(%d) of %d", n, size)
			}
			if dropped := s.Clone(); size > 0 && there == (dropped.Drop(n) == api.ErrArg) {
				t.Errorf("Drop(%d) of %d", n, size)
			}
		}
	}
}

// R3: a set keeps nothing of others that were made, and no two share anything.
func TestSetsOfTheirOwn(t *testing.T) {
	a, b := made(t, 130), made(t, 130)
	for p := range 130 {
		if p%3 == 0 {
			wantErr(t, "Add", a.Add(p), api.OK)
		} else {
			wantErr(t, "Add", b.Add(p), api.OK)
		}
	}
	for p := range 130 {
		if a.Has(p) != (p%3 == 0) || b.Has(p) != (p%3 != 0) {
			t.Errorf("page %d: %v, %v", p, a.Has(p), b.Has(p))
		}
	}
	wantSame(t, "one and what is not in the other", a, b.Not(), true)
}

// R6: the same calls answer the same, also when other calls stand between them.
func TestTheSameCallsAnswerTheSame(t *testing.T) {
	s := made(t, 130, 1, 2, 63, 64, 65, 129)
	for range 3 {
		if s.Run(3) != 63 || s.Run(2) != 1 || s.Run(4) != -1 || s.First(66) != 129 || s.First(-5) != 1 || s.Len() != 6 || s.Size() != 130 {
			t.Error("numbers")
		}
		if !slices.Equal(allOf(s), []int{1, 2, 63, 64, 65, 129}) || !slices.Equal(runsOf(s), []row{{1, 2}, {63, 3}, {129, 1}}) {
			t.Error("told", allOf(s), runsOf(s))
		}
		wantErr(t, "Add", s.Add(2), api.ErrTwice)
		wantErr(t, "Drop", s.Drop(3), api.ErrNone)
		wantErr(t, "Add", s.Add(130), api.ErrArg)
		wantErr(t, "Add", s.Add(66), api.OK)
		wantErr(t, "Drop", s.Drop(66), api.OK)
		s.Not().Add(1)
		s.Clone().Drop(1)
	}
}
