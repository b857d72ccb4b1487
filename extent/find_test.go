package extent_test

import (
	"fmt"
	"math"
	"testing"

	"incipit/api"
	"incipit/extent"
)

// wantFirst asks for First from each page on, from below 0 and from far ones.
func wantFirst(t *testing.T, what string, s *extent.Set, m plain) {
	t.Helper()
	for from := -70; from < len(m)+140; from++ {
		if got, want := s.First(from), m.first(from); got != want {
			t.Fatalf("%s: First(%d) is %d, not %d", what, from, got, want)
		}
	}
	for _, from := range farPages {
		if got, want := s.First(from), m.first(from); got != want {
			t.Fatalf("%s: First(%d) is %d, not %d", what, from, got, want)
		}
	}
}

// P7.2: of an empty set First is -1, of a full one it is the page itself, of one page it is that one, up to it.
func TestFirst(t *testing.T) {
	for _, size := range sizes {
		wantFirst(t, fmt.Sprint("empty: ", size), made(t, size), make(plain, size))
		wantFirst(t, fmt.Sprint("full: ", size), madeAs(t, full(size)), full(size))
		there, _ := edges(size)
		for _, p := range there {
			wantFirst(t, fmt.Sprintf("page %d of %d", p, size), made(t, size, p), plainOf(size, p))
			rest := plainOf(size, p).not()
			wantFirst(t, fmt.Sprintf("all but page %d of %d", p, size), madeAs(t, rest), rest)
		}
	}
}

// P7.2: the edges by their plain numbers.
func TestFirstByNumbers(t *testing.T) {
	s := made(t, 130, 0, 63, 64, 129)
	for _, c := range [][2]int{{math.MinInt, 0}, {-1, 0}, {0, 0}, {1, 63}, {62, 63}, {63, 63}, {64, 64}, {65, 129}, {127, 129}, {128, 129}, {129, 129}, {130, -1}, {131, -1}, {191, -1}, {192, -1}, {2047, -1}, {2048, -1}, {2049, -1}, {math.MaxInt, -1}} {
		if got := s.First(c[0]); got != c[1] {
			t.Errorf("First(%d) is %d, not %d", c[0], got, c[1])
		}
	}
	for _, p := range []int{0, 63, 64, 129} {
		wantErr(t, "Drop", s.Drop(p), api.OK)
	}
	for _, from := range []int{math.MinInt, -1, 0, 64, 129, 130, math.MaxInt} {
		if got := s.First(from); got != -1 {
			t.Errorf("First(%d) of an empty set is %d", from, got)
		}
	}
}

// P7.2: First of every set of 8 pages, and of greater ones that are drawn.
func TestFirstOfManySets(t *testing.T) {
	for bits := range 1 << 8 {
		m := plainBits(8, bits)
		wantFirst(t, fmt.Sprint("pages ", m.pages()), madeAs(t, m), m)
	}
	r := draws(1)
	for range 150 {
		m := r.set(1 + r.below(400))
		wantFirst(t, fmt.Sprintf("%d pages: %v", len(m), m.pages()), madeAs(t, m), m)
	}
}

// wantRun asks for Run of each number up to the size, and beyond, of those below 1, and of far ones.
func wantRun(t *testing.T, what string, s *extent.Set, m plain) {
	t.Helper()
	for n := -3; n <= len(m)+3; n++ {
		if got, want := s.Run(n), m.run(n); got != want {
			t.Fatalf("%s: Run(%d) is %d, not %d", what, n, got, want)
		}
	}
	for _, n := range []int{math.MinInt, math.MinInt + 1, -1 << 32, -1<<32 + 1, -64, -api.MaxPages, api.MaxPages + 1, 1 << 31, 1 << 32, 1<<32 + 1, math.MaxInt - 1, math.MaxInt} {
		if got := s.Run(n); got != -1 {
			t.Fatalf("%s: Run(%d) is %d", what, n, got)
		}
	}
}

// P7.2: of an empty set there is no row, of a full one there are rows of each length, of one page one of one.
func TestRun(t *testing.T) {
	for _, size := range sizes {
		s := made(t, size)
		for _, n := range []int{-1, 0, 1, 2, size, size + 1} {
			if s.Run(n) != -1 {
				t.Errorf("Run(%d) of an empty set of %d is %d", n, size, s.Run(n))
			}
		}
		s = madeAs(t, full(size))
		for n := range size {
			if s.Run(n+1) != 0 {
				t.Fatalf("Run(%d) of a full set of %d is %d", n+1, size, s.Run(n+1))
			}
		}
		for _, n := range []int{math.MinInt, -1, 0, size + 1, size + 64, api.MaxPages + 1, math.MaxInt} {
			if s.Run(n) != -1 {
				t.Errorf("Run(%d) of a full set of %d is %d", n, size, s.Run(n))
			}
		}
	}
	for _, size := range []int{1, 63, 64, 65, 130} {
		for p := range size {
			wantRun(t, fmt.Sprintf("page %d of %d", p, size), made(t, size, p), plainOf(size, p))
		}
	}
}

// P7.2: the chapter's example.
func TestExample(t *testing.T) {
	s := made(t, 8, 1, 2, 5)
	wantSet(t, "the example", s, plainOf(8, 1, 2, 5))
	rows := runsOf(s)
	if len(rows) != 2 || rows[0] != (row{1, 2}) || rows[1] != (row{5, 1}) {
		t.Error("Runs tells", rows)
	}
	if s.Run(2) != 1 || s.Run(3) != -1 || s.Run(1) != 1 {
		t.Error("Run", s.Run(1), s.Run(2), s.Run(3))
	}
}

// P7.2: rows that begin at page 0, that end at the last page, that lie within a word, and that cross from one to the next.
func TestRunOfEachRow(t *testing.T) {
	for _, size := range []int{8, 63, 64, 65, 130} {
		for first := range size {
			for _, length := range []int{1, 2, 3, 62, 63, 64, 65, 66, 127, 128, 129, size - first - 1, size - first} {
				if length < 1 || first+length > size {
					continue
				}
				m := make(plain, size)
				for p := range length {
					m[first+p] = true
				}
				s := madeAs(t, m)
				if s.Run(length) != first || s.Run(1) != first || s.Run(length+1) != -1 || s.Run(0) != -1 {
					t.Fatalf("of %d pages %d from %d on: Run is %d, %d, %d", size, length, first, s.Run(length), s.Run(1), s.Run(length+1))
				}
				wantTold(t, "one row", s, m)
			}
		}
	}
}

// P7.2: of rows that are as long it is the lower one; a longer one counts where it stands lower, and where no other is long enough.
func TestTheLowestRow(t *testing.T) {
	s := made(t, 200, 3, 4, 62, 63, 64, 70, 71, 72, 127, 128, 199)
	for _, c := range [][2]int{{1, 3}, {2, 3}, {3, 62}, {4, -1}} {
		if got := s.Run(c[0]); got != c[1] {
			t.Errorf("Run(%d) is %d, not %d", c[0], got, c[1])
		}
	}
	wantErr(t, "Drop", s.Drop(63), api.OK)
	if s.Run(3) != 70 || s.Run(2) != 3 {
		t.Error("behind a Drop", s.Run(3), s.Run(2))
	}
	wantErr(t, "Drop", s.Drop(3), api.OK)
	if s.Run(2) != 70 || s.Run(1) != 4 {
		t.Error("behind another Drop", s.Run(2), s.Run(1))
	}
	wantErr(t, "Add", s.Add(198), api.OK)
	wantErr(t, "Add", s.Add(197), api.OK)
	wantErr(t, "Add", s.Add(196), api.OK)
	if s.Run(4) != 196 || s.Run(5) != -1 || s.Run(3) != 70 {
		t.Error("behind Adds", s.Run(4), s.Run(5), s.Run(3))
	}
}

// P7.2: Run of every set of 8 pages, and of greater ones that are drawn.
func TestRunOfManySets(t *testing.T) {
	for bits := range 1 << 8 {
		m := plainBits(8, bits)
		wantRun(t, fmt.Sprint("pages ", m.pages()), madeAs(t, m), m)
	}
	r := draws(2)
	for range 60 {
		m := r.set(1 + r.below(260))
		wantRun(t, fmt.Sprintf("%d pages: %v", len(m), m.pages()), madeAs(t, m), m)
	}
}
