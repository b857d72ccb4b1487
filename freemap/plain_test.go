package freemap_test

import (
	"fmt"
	"math"
	"slices"
	"testing"

	"incipit/api"
	"incipit/freemap"
)

// The chapter's own words, done by hand: what the package is held against.

// What a page is; taken ones are told apart by whether they are of this transaction.
const (
	isFree = iota
	isOld
	isMine
	isHeld
)

// plain says of each page what it is, and what it was when the transaction began.
type plain struct{ page, begun []int }

func plainOpen(pages int, taken []int) *plain {
	m := &plain{page: make([]int, pages)}
	for _, p := range taken {
		m.page[p] = isOld
	}
	m.begun = slices.Clone(m.page)
	return m
}

func (m *plain) is(p int) int {
	if p < 0 || p >= len(m.page) {
		return isFree
	}
	return m.page[p]
}

func (m *plain) has(p int) bool { return m.is(p) == isOld || m.is(p) == isMine }

func (m *plain) mine(p int) bool { return m.is(p) == isMine }

// those are the pages that are one of what is asked for.
func (m *plain) those(what ...int) []int {
	var l []int
	for p, is := range m.page {
		if slices.Contains(what, is) {
			l = append(l, p)
		}
	}
	return l
}

func (m *plain) taken() []int { return m.those(isOld, isMine) }

// rowAt answers whether n pages from p on are there, and free.
func (m *plain) rowAt(p, n int) bool {
	if n > len(m.page)-p {
		return false
	}
	for q := p; q < p+n; q++ {
		if m.page[q] != isFree {
			return false
		}
	}
	return true
}

func (m *plain) allocRun(n int) (int, api.Errno) {
	if n < 1 {
		return 0, api.ErrArg
	}
	for p := range m.page {
		if m.rowAt(p, n) {
			for q := p; q < p+n; q++ {
				m.page[q] = isMine
			}
			return p, api.OK
		}
	}
	return 0, api.ErrFull
}

func (m *plain) alloc() (int, api.Errno) {
	for p, is := range m.page {
		if is == isFree {
			m.page[p] = isMine
			return p, api.OK
		}
	}
	return 0, api.ErrFull
}

func (m *plain) free(p int) api.Errno {
	switch m.is(p) {
	case isOld:
		m.page[p] = isHeld
	case isMine:
		m.page[p] = isFree
	default:
		return api.ErrNone
	}
	return api.OK
}

func (m *plain) commit() {
	for p, is := range m.page {
		switch is {
		case isMine:
			m.page[p] = isOld
		case isHeld:
			m.page[p] = isFree
		}
	}
	m.begun = slices.Clone(m.page)
}

func (m *plain) abort() { m.page = slices.Clone(m.begun) }

func (m *plain) clone() *plain {
	return &plain{page: slices.Clone(m.page), begun: slices.Clone(m.begun)}
}

// plainNeed is so many pages' free map's pages.
func plainNeed(pages int) int {
	switch {
	case pages < 8 || pages > 2048:
		return 0
	case pages <= 1024:
		return 1
	}
	return 2
}

// plainPut is what the i-th page bears of a list that may be, by a list of bools.
func plainPut(pages int, taken []int, i int) []byte {
	in := make([]bool, pages)
	for _, p := range taken {
		in[p] = true
	}
	b := make([]byte, 240)
	for p := range 1024 {
		if i*1024+p < pages && in[i*1024+p] {
			b[p/8] += []byte{1, 2, 4, 8, 16, 32, 64, 128}[p%8]
		}
	}
	return b
}

// plainPuts is what all pages of a free map bear.
func plainPuts(pages int, taken []int) [][]byte {
	var l [][]byte
	for i := range plainNeed(pages) {
		l = append(l, plainPut(pages, taken, i))
	}
	return l
}

// draws is a rule by which lists and lives are drawn, always the same of a seed.
type draws uint32

// below draws a number from 0 on, below n.
func (r *draws) below(n int) int {
	*r = *r*1664525 + 1013904223
	return int(uint32(*r)>>8) % n
}

// list draws pages that are taken, in long and in short rows.
func (r *draws) list(pages int) []int {
	var l []int
	longest := 1 + r.below(150)
	in := r.below(2) == 0
	for p := 0; p < pages; in = !in {
		for n := 1 + r.below(longest); n > 0 && p < pages; n-- {
			if in {
				l = append(l, p)
			}
			p++
		}
	}
	return l
}

// from is the pages from first on, below end.
func from(first, end int) []int {
	var l []int
	for p := first; p < end; p++ {
		l = append(l, p)
	}
	return l
}

// without is l, but for these pages.
func without(l []int, pages ...int) []int {
	return slices.DeleteFunc(slices.Clone(l), func(p int) bool { return slices.Contains(pages, p) })
}

// sizes are such that the last byte, or word, or page of the free map is full, has one page, or lacks one; the least and the greatest ones among them.
var sizes = []int{8, 9, 15, 16, 17, 63, 64, 65, 100, 1000, 1016, 1023, 1024, 1025, 1032, 1100, 2040, api.MaxPages - 1, api.MaxPages}

// noSizes are how many pages may not be.
var noSizes = []int{math.MinInt, math.MinInt + 8, -1 << 40, -1<<32 + 8, -1 << 31, -1024, -8, -2, -1, 0, 1, 2, 7, 2049, 2050, 3072, 4096, 65536 + 8, 1 << 31, 1 << 32, 1<<32 + 8, 1<<40 + 1024, math.MaxInt - 1, math.MaxInt}

// farPages are pages that no map has.
var farPages = []int{math.MinInt, math.MinInt + 1, -1 << 40, -1<<32 + 3, -1 << 32, -1 << 31, -api.MaxPages, -1024, -64, -8, -2, -1, api.MaxPages, api.MaxPages + 1, 1 << 16, 1 << 31, 1 << 32, 1<<32 + 3, 1<<40 + 3, math.MaxInt - 1, math.MaxInt}

// noLists are lists that are no pages that are taken of so many; the pages in them, but for one, are such ones.
func noLists(pages int) map[string][]int {
	last := pages - 1
	l := map[string][]int{
		"twice, the first":       {0, 0},
		"twice, the last":        {0, 3, last, last},
		"twice, amid others":     {1, 4, 4, 6},
		"not rising":             {1, 0},
		"not rising at its end":  {0, 1, 2, last, 5},
		"not rising amid others": {0, 3, 2, 7},
		"falling":                {7, 6, 5, 4, 3, 2, 1, 0},
		"below 0":                {-1},
		"below 0, and others":    {-1, 0, 1},
		"below 0 at its end":     {0, 1, -1},
		"all, and one more":      from(0, pages+1),
		"one, twice over":        append(from(0, pages), last),
		"there is not":           {pages},
		"there is not, others":   {0, 1, pages},
		"there is not, ahead":    {pages, 0, 1},
	}
	for _, p := range farPages {
		l[fmt.Sprint("far: ", p)] = []int{p}
		l[fmt.Sprint("far behind others: ", p)] = []int{0, 5, p}
		l[fmt.Sprint("far ahead of others: ", p)] = []int{p, 0, 5}
	}
	return l
}

func wantErr(t *testing.T, what string, got, want api.Errno) {
	t.Helper()
	if got != want {
		t.Fatalf("%s answers %d, not %d", what, int(got), int(want))
	}
}

// opened is a map of Open's, beside its plain one.
func opened(t *testing.T, pages int, taken ...int) (*freemap.Map, *plain) {
	t.Helper()
	m, e := freemap.Open(pages, taken)
	wantErr(t, fmt.Sprintf("Open(%d, %v)", pages, taken), e, api.OK)
	return m, plainOpen(pages, taken)
}

// freeOf is what All tells.
func freeOf(m *freemap.Map) []int { return slices.Collect(m.All()) }

// wantMap asks a map for all that it tells.
func wantMap(t *testing.T, what string, m *freemap.Map, want *plain) {
	t.Helper()
	if got := m.Taken(); !slices.Equal(got, want.taken()) {
		t.Fatalf("%s: Taken is %v, not %v", what, got, want.taken())
	}
	if got := freeOf(m); !slices.Equal(got, want.those(isFree)) {
		t.Fatalf("%s: All tells %v, not %v", what, got, want.those(isFree))
	}
	if m.Avail() != len(want.those(isFree)) || m.Held() != len(want.those(isHeld)) {
		t.Fatalf("%s: Avail %d, Held %d, not %d, %d", what, m.Avail(), m.Held(), len(want.those(isFree)), len(want.those(isHeld)))
	}
	for p := -9; p < len(want.page)+70; p++ {
		if m.Has(p) != want.has(p) || m.Mine(p) != want.mine(p) {
			t.Fatalf("%s: page %d: Has %v, Mine %v", what, p, m.Has(p), m.Mine(p))
		}
	}
}

// doAlloc, doRun, doFree, doCommit and doAbort do the same with a map and with its plain one, and ask for the same answer.
func doAlloc(t *testing.T, what string, m *freemap.Map, want *plain) (int, api.Errno) {
	t.Helper()
	p, e := m.Alloc()
	if q, f := want.alloc(); p != q || e != f {
		t.Fatalf("%s: Alloc answers %d, %d, not %d, %d", what, p, int(e), q, int(f))
	}
	return p, e
}

func doRun(t *testing.T, what string, m *freemap.Map, want *plain, n int) (int, api.Errno) {
	t.Helper()
	p, e := m.AllocRun(n)
	if q, f := want.allocRun(n); p != q || e != f {
		t.Fatalf("%s: AllocRun(%d) answers %d, %d, not %d, %d", what, n, p, int(e), q, int(f))
	}
	return p, e
}

func doFree(t *testing.T, what string, m *freemap.Map, want *plain, p int) api.Errno {
	t.Helper()
	e := m.Free(p)
	wantErr(t, fmt.Sprintf("%s: Free(%d)", what, p), e, want.free(p))
	return e
}

func doCommit(t *testing.T, what string, m *freemap.Map, want *plain) {
	t.Helper()
	wantErr(t, what+": Commit", m.Commit(), api.OK)
	want.commit()
}

func doAbort(t *testing.T, what string, m *freemap.Map, want *plain) {
	t.Helper()
	wantErr(t, what+": Abort", m.Abort(), api.OK)
	want.abort()
}
