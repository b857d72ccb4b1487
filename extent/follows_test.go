package extent_test

import (
	"fmt"
	"testing"

	"incipit/api"
	"incipit/extent"
)

// eachSet tells every set of 8 pages, and many greater ones drawn by a rule.
func eachSet(t *testing.T, ask func(what string, s *extent.Set)) {
	t.Helper()
	for bits := range 1 << 8 {
		m := plainBits(8, bits)
		ask(fmt.Sprint("of 8 pages ", m.pages()), madeAs(t, m))
	}
	r := draws(10)
	for range 100 {
		m := r.set(9 + r.below(300))
		ask(fmt.Sprintf("of %d pages %v", len(m), m.pages()), madeAs(t, m))
	}
	for _, size := range sizes {
		ask(fmt.Sprint("drawn, of ", size), madeAs(t, r.set(size)))
		ask(fmt.Sprint("full, of ", size), madeAs(t, full(size)))
		ask(fmt.Sprint("empty, of ", size), made(t, size))
	}
}

// P7.3: runs are, one behind the other, just the pages in the set, and between two there is always a page that is not in it.
func TestRuns(t *testing.T) {
	eachSet(t, func(what string, s *extent.Set) {
		behind, pages := -1, 0 // the page behind the last run; how many there were
		covered := make(plain, s.Size())
		for p, n := range s.Runs() {
			if n < 1 || p < 0 || p+n > s.Size() {
				t.Fatalf("%s: a run of %d from %d on", what, n, p)
			}
			if p <= behind || s.Has(p-1) || s.Has(p+n) {
				t.Fatalf("%s: the run of %d from %d on touches another one", what, n, p)
			}
			for q := p; q < p+n; q++ {
				covered[q] = true
			}
			behind, pages = p+n, pages+n
		}
		if pages != s.Len() {
			t.Fatalf("%s: the runs have %d pages, the set %d", what, pages, s.Len())
		}
		for p := range covered {
			if covered[p] != s.Has(p) {
				t.Fatalf("%s: page %d is in a run: %v", what, p, covered[p])
			}
		}
	})
}

// fits answers whether n pages from p on lie within one of rows.
func fits(rows []row, p, n int) bool {
	for _, r := range rows {
		if p >= r.first && p+n <= r.first+r.length {
			return true
		}
	}
	return false
}

// longest answers how many pages the longest one of rows has.
func longest(rows []row) int {
	most := 0
	for _, r := range rows {
		most = max(most, r.length)
	}
	return most
}

// P7.4: Run(n) begins a run, or lies within one that is as long; there is one just if some run has n pages.
func TestFits(t *testing.T) {
	eachSet(t, func(what string, s *extent.Set) {
		rows := runsOf(s)
		most := longest(rows)
		for n := 1; n <= s.Size()+1; n++ {
			p := s.Run(n)
			if (p >= 0) != (n <= most) || p < -1 {
				t.Fatalf("%s: Run(%d) is %d, and the longest run has %d", what, n, p, most)
			}
			if p >= 0 && !fits(rows, p, n) {
				t.Fatalf("%s: Run(%d) is %d, which lies in no run that is as long", what, n, p)
			}
		}
	})
}

// P7.4: what Run tells can be taken out: page by page each one is in it, till none is left.
func TestRowsAreTakenOut(t *testing.T) {
	for n := 1; n <= 70; n++ {
		r := draws(n + 500)
		m := r.set(300)
		s := madeAs(t, m)
		last := -1
		for p := s.Run(n); p >= 0; p = s.Run(n) {
			if p <= last {
				t.Fatalf("Run(%d) is %d behind %d", n, p, last)
			}
			for q := p; q < p+n; q++ {
				wantErr(t, fmt.Sprintf("Run(%d) is %d: Drop(%d)", n, p, q), s.Drop(q), m.drop(q))
			}
			last = p
		}
		if most := longest(m.runs()); most >= n {
			t.Fatalf("a run of %d is left, and Run(%d) is -1", most, n)
		}
		wantSet(t, "what is left", s, m)
	}
}

// THE BOUND: going over the greatest set takes about as long as it has pages, whatever its runs are.
func TestTheGreatestSetsInTime(t *testing.T) {
	for step := 1; step <= 64; step++ {
		s, m := made(t, api.MaxPages), make(plain, api.MaxPages)
		for p := 0; p < api.MaxPages; p += step {
			wantErr(t, "Add", s.Add(p), m.add(p))
		}
		for range 50 {
			pages, rows := 0, 0
			for range s.All() {
				pages++
			}
			for range s.Runs() {
				rows++
			}
			if pages != s.Len() || step > 1 && rows != pages || step == 1 && rows != 1 {
				t.Fatalf("step %d: %d pages, %d runs", step, pages, rows)
			}
		}
		if step > 1 && s.Run(2) != -1 {
			t.Fatalf("step %d: Run(2) is %d", step, s.Run(2))
		}
	}
}
