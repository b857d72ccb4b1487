package extent_test

import (
	"fmt"
	"testing"

	"incipit/api"
	"incipit/extent"
)

// P7.1: Not has just the pages that are not in it, of those that there are; twice it is the same set.
func TestNot(t *testing.T) {
	r := draws(6)
	for _, size := range sizes {
		for _, m := range []plain{make(plain, size), full(size), plainOf(size, 0), plainOf(size, size-1), r.set(size), r.set(size)} {
			s := madeAs(t, m)
			not := s.Not()
			wantSet(t, fmt.Sprint("Not, of ", size), not, m.not())
			if not.Len() != size-s.Len() || not.First(size) != -1 || not.Run(size+1) != -1 {
				t.Errorf("Not of %d pages of %d has %d", s.Len(), size, not.Len())
			}
			again := not.Not()
			wantSet(t, fmt.Sprint("Not of Not, of ", size), again, m)
			if !extent.Same(again, s) || extent.Same(not, s) {
				t.Errorf("size %d: Same of Not and Not of Not", size)
			}
			wantSet(t, fmt.Sprint("behind Not, of ", size), s, m)
		}
	}
	for bits := range 1 << 8 {
		m := plainBits(8, bits)
		wantSet(t, fmt.Sprint("Not of ", m.pages()), madeAs(t, m).Not(), m.not())
	}
}

// P7.1: Clone has the same pages of the same size.
func TestClone(t *testing.T) {
	r := draws(7)
	for _, size := range sizes {
		for _, m := range []plain{make(plain, size), full(size), r.set(size)} {
			s := madeAs(t, m)
			twin := s.Clone()
			if twin == s || !extent.Same(twin, s) {
				t.Errorf("Clone of a set of %d", size)
			}
			wantSet(t, fmt.Sprint("Clone, of ", size), twin, m)
			wantSet(t, fmt.Sprint("behind Clone, of ", size), s, m)
		}
	}
}

// P7.1, R3: whichever is changed afterwards, the set, its clone, or its Not, leaves the others as they were.
func TestEachGoesItsOwnWay(t *testing.T) {
	r := draws(8)
	for _, size := range []int{1, 8, 63, 64, 65, 200, api.MaxPages} {
		m := r.set(size)
		s := madeAs(t, m)
		sets := []*extent.Set{s, s.Clone(), s.Not(), s.Clone().Clone(), s.Not().Not()}
		plains := []plain{m, m.not().not(), m.not(), m.not().not(), m.not().not()}
		for i := range sets {
			turnAll(t, sets[i], plains[i])
			for range 3 {
				turn(t, sets[i], plains[i], r.below(size))
			}
			for k := range sets {
				wantSet(t, fmt.Sprintf("set %d behind a change of set %d, of %d", k, i, size), sets[k], plains[k])
			}
		}
	}
}

// wantSame asks in both directions, and of each set with itself.
func wantSame(t *testing.T, what string, a, b *extent.Set, want bool) {
	t.Helper()
	if extent.Same(a, b) != want || extent.Same(b, a) != want {
		t.Errorf("%s: Same is not %v", what, want)
	}
	if !extent.Same(a, a) || !extent.Same(b, b) {
		t.Errorf("%s: a set is not the same as itself", what)
	}
}

// P7.1: sets of one size with the same pages are the same, however they came to be; those of one page more or less are not.
func TestSame(t *testing.T) {
	r := draws(9)
	for _, size := range sizes {
		for _, m := range []plain{make(plain, size), full(size), r.set(size)} {
			a, b := madeAs(t, m), madeAs(t, m.not()).Not()
			wantSame(t, "the same pages", a, b, true)
			wantSame(t, "a clone", a, a.Clone(), true)
			there, _ := edges(size)
			for _, p := range there {
				turn(t, b, m, p)
				wantSame(t, fmt.Sprintf("page %d of %d", p, size), a, b, false)
				turn(t, b, m, p)
				wantSame(t, fmt.Sprintf("page %d of %d turned twice", p, size), a, b, true)
			}
			wantSet(t, "behind Same", a, m)
			wantSet(t, "behind Same", b, m)
		}
	}
}

// P7.1: sets of another size are not the same, though they have the same pages.
func TestSameOfOtherSizes(t *testing.T) {
	for _, a := range sizes {
		for _, b := range sizes {
			wantSame(t, fmt.Sprintf("empty ones of %d and %d", a, b), made(t, a), made(t, b), a == b)
			wantSame(t, fmt.Sprintf("page 0 of %d and %d", a, b), made(t, a, 0), made(t, b, 0), a == b)
			wantSame(t, fmt.Sprintf("full ones of %d and %d", a, b), madeAs(t, full(a)), madeAs(t, full(b)), a == b)
			if a < b {
				wantSame(t, fmt.Sprintf("the first %d, of %d and %d", a, a, b), madeAs(t, full(a)), made(t, b, full(a).pages()...), false)
			}
		}
	}
}

// P7.1: all pairs of sets of 6 pages are the same just where their pages are.
func TestSameOfEachPair(t *testing.T) {
	for a := range 1 << 6 {
		for b := range 1 << 6 {
			wantSame(t, fmt.Sprintf("%b and %b", a, b), madeAs(t, plainBits(6, a)), madeAs(t, plainBits(6, b)), a == b)
		}
	}
}
