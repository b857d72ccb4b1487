package extent_test

import (
	"fmt"
	"math"
	"slices"
	"testing"

	"incipit/api"
	"incipit/extent"
)

// plain is the chapter's own words, done by hand: of each page whether it is in the set.
type plain []bool

func plainOf(size int, pages ...int) plain {
	m := make(plain, size)
	for _, p := range pages {
		m[p] = true
	}
	return m
}

// plainBits is the set of which page p is in it where bit p is 1.
func plainBits(size, bits int) plain {
	m := make(plain, size)
	for p := range m {
		m[p] = bits>>p&1 == 1
	}
	return m
}

func full(size int) plain { return make(plain, size).not() }

func (m plain) exists(p int) bool { return p >= 0 && p < len(m) }

func (m plain) has(p int) bool { return m.exists(p) && m[p] }

func (m plain) add(p int) api.Errno {
	if !m.exists(p) {
		return api.ErrArg
	}
	if m[p] {
		return api.ErrTwice
	}
	m[p] = true
	return api.OK
}

func (m plain) drop(p int) api.Errno {
	if !m.exists(p) {
		return api.ErrArg
	}
	if !m[p] {
		return api.ErrNone
	}
	m[p] = false
	return api.OK
}

func (m plain) not() plain {
	other := make(plain, len(m))
	for p := range m {
		other[p] = !m[p]
	}
	return other
}

func (m plain) pages() []int {
	var pages []int
	for p := range m {
		if m[p] {
			pages = append(pages, p)
		}
	}
	return pages
}

func (m plain) first(from int) int {
	for p := range m {
		if p >= from && m[p] {
			return p
		}
	}
	return -1
}

// inRow answers how many pages in a row are in the set from p on.
func (m plain) inRow(p int) int {
	n := 0
	for m.has(p + n) {
		n++
	}
	return n
}

func (m plain) run(n int) int {
	for p := range m {
		if n >= 1 && m.inRow(p) >= n {
			return p
		}
	}
	return -1
}

// row is a run: its first page, and how many pages it has.
type row struct{ first, length int }

func (m plain) runs() []row {
	var rows []row
	for p := range m {
		if m.has(p) && !m.has(p-1) {
			rows = append(rows, row{p, m.inRow(p)})
		}
	}
	return rows
}

// draws is a rule by which sets and lives are drawn, always the same of a seed.
type draws uint32

// below draws a number from 0 on, below n.
func (r *draws) below(n int) int {
	*r = *r*1664525 + 1013904223
	return int(uint32(*r)>>8) % n
}

// set draws a set of that size, of long and of short rows.
func (r *draws) set(size int) plain {
	m := make(plain, size)
	longest := 1 + r.below(150)
	in := r.below(2) == 0
	for p := 0; p < size; in = !in {
		for n := 1 + r.below(longest); n > 0 && p < size; n-- {
			m[p] = in
			p++
		}
	}
	return m
}

// sizes are such that the last word is full, has one page, or lacks one; the least and the greatest ones among them.
var sizes = []int{1, 2, 8, 62, 63, 64, 65, 66, 100, 127, 128, 129, 130, 191, 192, 193, 1000, 1023, 1024, 1025, api.MaxPages - 1, api.MaxPages}

// farPages are pages that no set has.
var farPages = []int{math.MinInt, math.MinInt + 1, -1 << 40, -1<<32 + 3, -1 << 32, -1 << 31, -api.MaxPages, -65, -64, -63, -2, -1, api.MaxPages, api.MaxPages + 1, 1 << 16, 1 << 31, 1 << 32, 1<<32 + 3, 1<<40 + 3, math.MaxInt - 1, math.MaxInt}

func wantErr(t *testing.T, what string, got, want api.Errno) {
	t.Helper()
	if got != want {
		t.Fatalf("%s answers %d, not %d", what, int(got), int(want))
	}
}

// made is a set of New's, with these pages.
func made(t *testing.T, size int, pages ...int) *extent.Set {
	t.Helper()
	s, e := extent.New(size)
	wantErr(t, fmt.Sprintf("New(%d)", size), e, api.OK)
	for _, p := range pages {
		wantErr(t, fmt.Sprintf("Add(%d)", p), s.Add(p), api.OK)
	}
	return s
}

// madeAs is a set of New's with the pages of m.
func madeAs(t *testing.T, m plain) *extent.Set {
	t.Helper()
	return made(t, len(m), m.pages()...)
}

// allOf is what All tells.
func allOf(s *extent.Set) []int { return slices.Collect(s.All()) }

// runsOf is what Runs tells.
func runsOf(s *extent.Set) []row {
	var rows []row
	for p, n := range s.Runs() {
		rows = append(rows, row{p, n})
	}
	return rows
}

// wantPages asks which pages are in the set, and how many, and of how many it is.
func wantPages(t *testing.T, what string, s *extent.Set, m plain) {
	t.Helper()
	if s.Size() != len(m) {
		t.Fatalf("%s: Size is %d, not %d", what, s.Size(), len(m))
	}
	if s.Len() != len(m.pages()) {
		t.Fatalf("%s: Len is %d, not %d", what, s.Len(), len(m.pages()))
	}
	for p := -70; p < len(m)+140; p++ {
		if s.Has(p) != m.has(p) {
			t.Fatalf("%s: Has(%d) is %v", what, p, s.Has(p))
		}
	}
}

// wantTold asks what All and Runs tell.
func wantTold(t *testing.T, what string, s *extent.Set, m plain) {
	t.Helper()
	if got, want := allOf(s), m.pages(); !slices.Equal(got, want) {
		t.Fatalf("%s: All tells %v, not %v", what, got, want)
	}
	if got, want := runsOf(s), m.runs(); !slices.Equal(got, want) {
		t.Fatalf("%s: Runs tells %v, not %v", what, got, want)
	}
}

// wantSet asks all of it.
func wantSet(t *testing.T, what string, s *extent.Set, m plain) {
	t.Helper()
	wantPages(t, what, s, m)
	wantTold(t, what, s, m)
}
