package extent_test

import (
	"fmt"
	"iter"
	"slices"
	"testing"

	"incipit/api"
	"incipit/extent"
)

// P7.2: an empty set has no page and no run, a full one has one run.
func TestAllAndRunsOfEmptyAndFull(t *testing.T) {
	for _, size := range sizes {
		s := made(t, size)
		for p := range s.All() {
			t.Errorf("an empty set of %d tells page %d", size, p)
		}
		for p, n := range s.Runs() {
			t.Errorf("an empty set of %d tells a run: %d, %d", size, p, n)
		}
		m := full(size)
		s = madeAs(t, m)
		wantTold(t, fmt.Sprint("full: ", size), s, m)
		if rows := runsOf(s); len(rows) != 1 || rows[0] != (row{0, size}) {
			t.Errorf("a full set of %d has runs %v", size, rows)
		}
	}
}

// P7.2: All and Runs of every set of 8 pages, and of greater ones that are drawn; also when one ranges again.
func TestAllAndRunsOfManySets(t *testing.T) {
	for bits := range 1 << 8 {
		m := plainBits(8, bits)
		wantTold(t, fmt.Sprint("pages ", m.pages()), madeAs(t, m), m)
	}
	r := draws(3)
	for range 300 {
		m := r.set(129 + r.below(400))
		s := madeAs(t, m)
		wantTold(t, "drawn", s, m)
		wantTold(t, "drawn, again", s, m)
		wantPages(t, "drawn, behind ranging", s, m)
	}
	for _, size := range sizes {
		m := r.set(size)
		wantTold(t, fmt.Sprint("drawn: ", size), madeAs(t, m), m)
	}
	alternate := make(plain, api.MaxPages)
	for p := range alternate {
		alternate[p] = p%2 == 1
	}
	wantTold(t, "each second page", madeAs(t, alternate), alternate)
}

// pairs makes of an iterator of runs one of rows.
func pairs(runs iter.Seq2[int, int]) iter.Seq[row] {
	return func(yield func(row) bool) {
		for p, n := range runs {
			if !yield(row{p, n}) {
				return
			}
		}
	}
}

// taken is the first n that all tells, left there.
func taken[T any](all iter.Seq[T], n int) []T {
	var got []T
	for x := range all {
		if len(got) == n {
			break
		}
		got = append(got, x)
	}
	return got
}

// wantLeft leaves an iterator at each point, and asks that it tells all of it again.
func wantLeft[T comparable](t *testing.T, what string, all iter.Seq[T], want []T) {
	t.Helper()
	for n := range len(want) + 1 {
		if got := taken(all, n); !slices.Equal(got, want[:n]) {
			t.Fatalf("%s: left behind %d it has told %v", what, n, got)
		}
		if got := slices.Collect(all); !slices.Equal(got, want) {
			t.Fatalf("%s: behind one that was left it tells %v, not %v", what, got, want)
		}
	}
}

// P7.2, R3: one may stop at any point, and range again over the same iterator.
func TestLeftAtEachPoint(t *testing.T) {
	r := draws(4)
	for _, size := range []int{1, 2, 8, 64, 65, 129, 200} {
		for _, m := range []plain{make(plain, size), full(size), plainOf(size, 0), plainOf(size, size-1), r.set(size), r.set(size)} {
			s := madeAs(t, m)
			wantLeft(t, "All", s.All(), m.pages())
			wantLeft(t, "Runs", pairs(s.Runs()), m.runs())
			wantPages(t, "behind ranging", s, m)
		}
	}
}

// R3: an iterator that is told to stop tells nothing any more.
func TestStopIsHeeded(t *testing.T) {
	s := made(t, 200, 1, 2, 5, 64, 65, 130, 199)
	for stop := 1; stop <= 5; stop++ {
		told := 0
		s.All()(func(int) bool { told++; return told < stop })
		if told != stop {
			t.Errorf("All told %d, and was stopped at %d", told, stop)
		}
		told = 0
		s.Runs()(func(int, int) bool { told++; return told < stop })
		if told != stop {
			t.Errorf("Runs told %d, and was stopped at %d", told, stop)
		}
	}
}

// turn takes page p out, or puts it in.
func turn(t *testing.T, s *extent.Set, m plain, p int) {
	t.Helper()
	if m[p] {
		wantErr(t, "Drop", s.Drop(p), m.drop(p))
	} else {
		wantErr(t, "Add", s.Add(p), m.add(p))
	}
}

// turnAll turns each page.
func turnAll(t *testing.T, s *extent.Set, m plain) {
	t.Helper()
	for p := range m {
		turn(t, s, m, p)
	}
}

// R3: an iterator tells what was there when one began to range over it, whatever is put in and taken out meanwhile.
func TestChangedWhileOneRanges(t *testing.T) {
	r := draws(5)
	for _, size := range []int{2, 8, 64, 65, 129, 200} {
		for range 20 {
			m := r.set(size)
			s := madeAs(t, m)
			wantSteady(t, s, m, s.All(), plain.pages)
			wantSteady(t, s, m, pairs(s.Runs()), plain.runs)
		}
	}
}

// wantSteady changes the set at each point of ranging: all of it, then what stands ahead of the point and behind it.
func wantSteady[T comparable](t *testing.T, s *extent.Set, m plain, all iter.Seq[T], tell func(plain) []T) {
	t.Helper()
	for at := range len(tell(m)) {
		before := tell(m)
		var got []T
		for x := range all {
			if len(got) == at {
				turnAll(t, s, m)
			}
			if len(got) > at {
				turn(t, s, m, (len(got)*7+at)%len(m))
			}
			got = append(got, x)
		}
		if !slices.Equal(got, before) {
			t.Fatalf("changed at %d it tells %v, not %v", at, got, before)
		}
		wantTold(t, "behind the changes", s, m)
		if len(tell(m)) < at+2 {
			return
		}
	}
}

// R3: it is when one begins to range that counts, not when All and Runs were called.
func TestChangedAheadOfRanging(t *testing.T) {
	m := plainOf(130, 1, 2, 5, 64)
	s := madeAs(t, m)
	all, runs := s.All(), pairs(s.Runs())
	for _, p := range []int{0, 1, 3, 4, 64, 65, 129} {
		turn(t, s, m, p)
		if got := slices.Collect(all); !slices.Equal(got, m.pages()) {
			t.Errorf("All tells %v, not %v", got, m.pages())
		}
		if got := slices.Collect(runs); !slices.Equal(got, m.runs()) {
			t.Errorf("Runs tells %v, not %v", got, m.runs())
		}
	}
}

// R3: iterators within one another, of one set that is changed in between, each tell what was there when they began.
func TestIteratorsWithinOneAnother(t *testing.T) {
	m := plainOf(140, 0, 1, 5, 63, 64, 65, 100, 139)
	s := madeAs(t, m)
	all, runs := s.All(), s.Runs()
	outer, told := m.pages(), []int{}
	for p := range all {
		told = append(told, p)
		inner, toldRuns := m.runs(), []row{}
		for first, n := range runs {
			toldRuns = append(toldRuns, row{first, n})
			within := m.pages()
			turn(t, s, m, (first+n)%140)
			if got := allOf(s); !slices.Equal(got, m.pages()) || slices.Equal(got, within) {
				t.Fatalf("a third one tells %v, not %v", got, m.pages())
			}
		}
		if !slices.Equal(toldRuns, inner) {
			t.Fatalf("the inner one tells %v, not %v", toldRuns, inner)
		}
		turn(t, s, m, p)
	}
	if !slices.Equal(told, outer) {
		t.Fatalf("the outer one tells %v, not %v", told, outer)
	}
	wantSet(t, "behind all of them", s, m)
}
