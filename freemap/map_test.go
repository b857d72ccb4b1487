package freemap_test

import (
	"fmt"
	"math"
	"slices"
	"testing"

	"incipit/api"
	"incipit/freemap"
)

// The chapter's example.
func TestExample(t *testing.T) {
	m, _ := opened(t, 8, 0, 1, 4)
	wantAnswer := func(what string, p int, e api.Errno, want int) {
		t.Helper()
		if p != want || e != api.OK {
			t.Fatalf("%s answers %d, %d", what, p, int(e))
		}
	}
	p, e := m.Alloc()
	wantAnswer("Alloc", p, e, 2)
	p, e = m.AllocRun(2)
	wantAnswer("AllocRun(2)", p, e, 5)
	wantErr(t, "Free(4)", m.Free(4), api.OK)
	if m.Held() != 1 || m.Has(4) || slices.Contains(freeOf(m), 4) {
		t.Error("4 is not held")
	}
	wantErr(t, "Free(2)", m.Free(2), api.OK)
	if m.Held() != 1 || m.Has(2) || !slices.Contains(freeOf(m), 2) {
		t.Error("2 is not free")
	}
	p, e = m.Alloc()
	wantAnswer("Alloc", p, e, 2)
	wantErr(t, "Commit", m.Commit(), api.OK)
	if m.Has(4) || m.Held() != 0 || !slices.Contains(freeOf(m), 4) {
		t.Error("4 is not free")
	}
	if got := m.Taken(); !slices.Equal(got, []int{0, 1, 2, 5, 6}) {
		t.Error("Taken", got)
	}
}

// P8.2: in a map of Open's the list's pages are taken, all others are free, none is held, and nothing is of this transaction.
func TestOpen(t *testing.T) {
	r := draws(10)
	for _, pages := range append(from(8, 40), sizes...) {
		for _, l := range [][]int{nil, {}, from(0, pages), {0}, {pages - 1}, without(from(0, pages), 0), r.list(pages), r.list(pages)} {
			before := slices.Clone(l)
			m, want := opened(t, pages, l...)
			wantMap(t, fmt.Sprintf("Open(%d, %v)", pages, l), m, want)
			if m.Held() != 0 || m.Avail() != pages-len(l) || !slices.Equal(m.Taken(), l) || !slices.Equal(before, l) {
				t.Fatalf("Open(%d, %v): Held %d, Avail %d, Taken %v", pages, before, m.Held(), m.Avail(), m.Taken())
			}
			for p := range pages {
				if m.Mine(p) {
					t.Fatalf("page %d is of this transaction", p)
				}
			}
		}
	}
}

// P8.2: ErrArg, and no map, of lists that are no such list, and of so many pages that may not be.
func TestOpenOfWrongArguments(t *testing.T) {
	for _, pages := range sizes {
		for what, l := range noLists(pages) {
			before := slices.Clone(l)
			if m, e := freemap.Open(pages, l); m != nil || e != api.ErrArg {
				t.Errorf("%s: Open(%d) answers %v, %d", what, pages, m, int(e))
			}
			if !slices.Equal(before, l) {
				t.Errorf("%s: Open has written to the list", what)
			}
		}
	}
	for _, pages := range noSizes {
		for _, l := range [][]int{nil, {}, {0}, {0, 1, 2}, {-1}, {3, 3}, {pages}} {
			if m, e := freemap.Open(pages, l); m != nil || e != api.ErrArg {
				t.Errorf("Open(%d, %v) answers %v, %d", pages, l, m, int(e))
			}
		}
	}
}

// R3: the list that was handed in is not kept.
func TestOpenKeepsNoList(t *testing.T) {
	l := []int{0, 1, 4, 9}
	m, want := opened(t, 16, l...)
	copy(l, []int{2, 3, 5, 6})
	wantMap(t, "behind a change of the list", m, want)
	doAlloc(t, "behind a change of the list", m, want)
	doFree(t, "behind a change of the list", m, want, 4)
	doAbort(t, "behind a change of the list", m, want)
	wantMap(t, "behind Abort", m, want)
	if !slices.Equal(l, []int{2, 3, 5, 6}) {
		t.Error("the map has written to the list", l)
	}
}

// P8.2: Alloc takes the lowest free page till nothing is free; then it is ErrFull, and nothing has changed.
func TestAllocTillNothingIsFree(t *testing.T) {
	r := draws(11)
	for _, pages := range []int{8, 9, 63, 64, 65, 200, 1025} {
		for _, l := range [][]int{nil, from(0, pages), {0}, {pages - 1}, r.list(pages), r.list(pages)} {
			m, want := opened(t, pages, l...)
			what := fmt.Sprintf("of %d, %v", pages, l)
			last := -1
			for range pages - len(l) {
				p, e := doAlloc(t, what, m, want)
				if e != api.OK || p <= last || !m.Has(p) || !m.Mine(p) {
					t.Fatalf("%s: Alloc answers %d, %d behind %d", what, p, int(e), last)
				}
				last = p
			}
			for range 2 {
				p, e := doAlloc(t, what, m, want)
				if p != 0 || e != api.ErrFull {
					t.Fatalf("%s: Alloc of a full map answers %d, %d", what, p, int(e))
				}
				doRun(t, what, m, want, 1)
				wantMap(t, what+", full", m, want)
			}
		}
	}
}

// P8.2: behind Free of a page of this transaction Alloc tells it again; behind Free of another one it does not, till Commit.
func TestAllocBehindFree(t *testing.T) {
	for _, pages := range []int{8, 65, 1030} {
		for _, p := range []int{0, 3, 7, pages - 1} {
			what := fmt.Sprintf("page %d of %d", p, pages)
			m, want := opened(t, pages, without(from(0, pages), p)...)
			for range 3 {
				if got, e := doAlloc(t, what, m, want); got != p || e != api.OK {
					t.Fatalf("%s: Alloc answers %d, %d", what, got, int(e))
				}
				wantErr(t, what, doFree(t, what, m, want, p), api.OK)
				wantMap(t, what+", mine, freed", m, want)
			}
			doAlloc(t, what, m, want)
			doCommit(t, what, m, want)
			wantErr(t, what, doFree(t, what, m, want, p), api.OK)
			if got, e := m.Alloc(); got != 0 || e != api.ErrFull || m.Held() != 1 || m.Avail() != 0 {
				t.Fatalf("%s: Alloc answers %d, %d of what is held", what, got, int(e))
			}
			if got, e := m.AllocRun(1); got != 0 || e != api.ErrFull {
				t.Fatalf("%s: AllocRun answers %d, %d of what is held", what, got, int(e))
			}
			wantMap(t, what+", held", m, want)
			doCommit(t, what, m, want)
			if got, e := doAlloc(t, what, m, want); got != p || e != api.OK {
				t.Fatalf("%s: Alloc answers %d, %d behind Commit", what, got, int(e))
			}
			wantMap(t, what+", taken again", m, want)
		}
	}
}

// P8.2: the first row that is long enough, that which begins lowest; as many as are free in a row, and one more.
func TestAllocRun(t *testing.T) {
	for _, c := range []struct {
		pages, n, begin int
		taken           []int
		e               api.Errno
	}{
		{8, 8, 0, nil, api.OK},
		{8, 9, 0, nil, api.ErrFull},
		{8, 1, 0, nil, api.OK},
		{8, 7, 0, []int{7}, api.OK},
		{8, 8, 0, []int{7}, api.ErrFull},
		{8, 7, 1, []int{0}, api.OK},
		{8, 8, 0, []int{0}, api.ErrFull},
		{8, 1, 7, from(0, 7), api.OK},
		{8, 2, 0, from(0, 7), api.ErrFull},
		{8, 1, 0, from(0, 8), api.ErrFull},
		{8, 2, 0, []int{2, 5}, api.OK},    // rows of two at 0, 3 and 6
		{8, 2, 1, []int{0, 3}, api.OK},    // at 1, and four at 4
		{8, 3, 4, []int{0, 3}, api.OK},    // a longer row is begun at its beginning
		{8, 2, 4, []int{1, 3, 6}, api.OK}, // 0, 2, 4 and 5, 7
		{8, 2, 6, []int{1, 3, 5}, api.OK}, // 0, 2, 4, 6 and 7
		{8, 2, 0, []int{1, 3, 5, 7}, api.ErrFull},
		{8, 1, 0, []int{1, 3, 5, 7}, api.OK}, // the lowest one
		{8, 1, 1, []int{0, 2, 4, 6}, api.OK}, // the lowest one
		{130, 2, 62, without(from(0, 130), 0, 62, 63, 64, 65, 128, 129), api.OK},
		{130, 4, 62, without(from(0, 130), 0, 62, 63, 64, 65, 128, 129), api.OK},
		{130, 5, 0, without(from(0, 130), 0, 62, 63, 64, 65, 128, 129), api.ErrFull},
		{1100, 76, 1024, from(0, 1024), api.OK},
		{1100, 77, 0, from(0, 1024), api.ErrFull},
		{1100, 4, 1022, without(from(0, 1100), 1022, 1023, 1024, 1025), api.OK},
		{1100, 5, 0, without(from(0, 1100), 1022, 1023, 1024, 1025), api.ErrFull},
		{api.MaxPages, api.MaxPages, 0, nil, api.OK},
		{api.MaxPages, api.MaxPages + 1, 0, nil, api.ErrFull},
		{api.MaxPages, 2, api.MaxPages - 2, from(0, api.MaxPages-2), api.OK},
	} {
		m, want := opened(t, c.pages, c.taken...)
		what := fmt.Sprintf("AllocRun(%d) of %d without %v", c.n, c.pages, c.taken)
		p, e := doRun(t, what, m, want, c.n)
		if p != c.begin || e != c.e {
			t.Errorf("%s answers %d, %d, not %d, %d", what, p, int(e), c.begin, int(c.e))
		}
		wantMap(t, what, m, want)
	}
}

// P8.2, R2: of n below 1 AllocRun answers ErrArg, also of a full map; of far ones ErrFull; nothing has changed.
func TestAllocRunOfWrongNumbers(t *testing.T) {
	for _, pages := range []int{8, 64, 1025, api.MaxPages} {
		for _, l := range [][]int{nil, from(0, pages), {0}, {3, 4}} {
			m, want := opened(t, pages, l...)
			for _, n := range []int{0, -1, -2, -8, -64, -1024, -pages, -1 << 31, -1 << 32, -1<<32 + 1, math.MinInt, math.MinInt + 1} {
				if p, e := m.AllocRun(n); p != 0 || e != api.ErrArg {
					t.Errorf("AllocRun(%d) of %d answers %d, %d", n, pages, p, int(e))
				}
			}
			for _, n := range []int{pages + 1, pages + 64, 2*pages + 1, api.MaxPages + 1, 1 << 31, 1 << 32, 1<<32 + 1, math.MaxInt - 1, math.MaxInt} {
				if p, e := m.AllocRun(n); p != 0 || e != api.ErrFull {
					t.Errorf("AllocRun(%d) of %d answers %d, %d", n, pages, p, int(e))
				}
			}
			wantMap(t, "behind wrong numbers", m, want)
		}
	}
}

// P8.2: rows of every map of 8 pages, in which each page is free, taken, of this transaction or held, of each length.
func TestAllocRunOfEachMap(t *testing.T) {
	for code := range 1 << 16 {
		if code%3 != 0 && code > 1<<12 {
			continue // enough of them
		}
		m, want := eachKind(t, code)
		for n := range 10 {
			mine, plainMine := m.Clone(), want.clone()
			doRun(t, fmt.Sprintf("map %x", code), mine, plainMine, n)
			if got := mine.Taken(); !slices.Equal(got, plainMine.taken()) {
				t.Fatalf("map %x: behind AllocRun(%d) Taken is %v, not %v", code, n, got, plainMine.taken())
			}
		}
	}
}

// eachKind is a map of 8 pages, of which two bits of code each say what it is.
func eachKind(t *testing.T, code int) (*freemap.Map, *plain) {
	t.Helper()
	var old, mine []int
	for p := range 8 {
		switch code >> (2 * p) & 3 {
		case isOld, isHeld:
			old = append(old, p)
		}
	}
	m, want := opened(t, 8, old...)
	for p := range 8 {
		if code>>(2*p)&3 == isMine {
			mine = append(mine, p)
		}
	}
	for len(want.those(isFree)) > 0 {
		doAlloc(t, "each kind", m, want)
	}
	for p := range 8 {
		is := code >> (2 * p) & 3
		if is == isFree || is == isHeld {
			wantErr(t, "each kind", doFree(t, "each kind", m, want, p), api.OK)
		}
	}
	for p := range 8 {
		if want.is(p) != code>>(2*p)&3 || m.Mine(p) != slices.Contains(mine, p) {
			t.Fatalf("map %x: page %d is %d", code, p, want.is(p))
		}
	}
	return m, want
}

// P8.2: ErrNone of pages that there are not, of free pages, of held ones, and of what was let go already; nothing has changed.
func TestFreeOfWhatIsNotTaken(t *testing.T) {
	for _, pages := range []int{8, 64, 65, 1024, 1025, api.MaxPages} {
		for _, l := range [][]int{nil, from(0, pages), {0, 4}, {pages - 1}} {
			m, want := opened(t, pages, l...)
			doAlloc(t, "a page", m, want)
			for _, p := range append([]int{pages, pages + 1, pages + 7, pages + 64, pages + 1024}, farPages...) {
				wantErr(t, fmt.Sprintf("of %d: Free(%d)", pages, p), m.Free(p), api.ErrNone)
			}
			wantMap(t, "pages that there are not", m, want)
			for _, p := range []int{0, 1, 4, 5, 7, pages - 1} {
				doFree(t, fmt.Sprintf("of %d, %v", pages, l), m, want, p)
				wantErr(t, fmt.Sprintf("of %d, %v: Free(%d) again", pages, l, p), doFree(t, "again", m, want, p), api.ErrNone)
			}
			wantMap(t, "let go twice", m, want)
		}
	}
}

// P8.2: what Free makes of each page of each map of 8 pages.
func TestFreeOfEachMap(t *testing.T) {
	for code := 0; code < 1<<16; code += 7 {
		m, want := eachKind(t, code)
		for p := -1; p <= 8; p++ {
			mine, plainMine := m.Clone(), want.clone()
			was := plainMine.is(p)
			e := doFree(t, fmt.Sprintf("map %x", code), mine, plainMine, p)
			if (e == api.OK) != (was == isOld || was == isMine) {
				t.Fatalf("map %x: Free(%d) answers %d", code, p, int(e))
			}
			wantMap(t, fmt.Sprintf("map %x behind Free(%d)", code, p), mine, plainMine)
		}
	}
}

// P8.3: what Commit and Abort make of each map of 8 pages; a second one changes nothing more.
func TestCommitAndAbortOfEachMap(t *testing.T) {
	for code := 0; code < 1<<16; code += 5 {
		m, want := eachKind(t, code)
		done, plainDone := m.Clone(), want.clone()
		for range 2 {
			doCommit(t, "Commit", done, plainDone)
			wantMap(t, fmt.Sprintf("map %x behind Commit", code), done, plainDone)
		}
		doAbort(t, "Abort", done, plainDone)
		wantMap(t, fmt.Sprintf("map %x behind Commit and Abort", code), done, plainDone)
		if !slices.Equal(done.Taken(), want.taken()) || done.Held() != 0 {
			t.Fatalf("map %x: Commit leaves %v", code, done.Taken())
		}
		for range 2 {
			doAbort(t, "Abort", m, want)
			wantMap(t, fmt.Sprintf("map %x behind Abort", code), m, want)
		}
		doCommit(t, "Commit", m, want)
		wantMap(t, fmt.Sprintf("map %x behind Abort and Commit", code), m, want)
	}
}

// act does one act that is drawn with a map and with its plain one.
func act(t *testing.T, what string, r *draws, m *freemap.Map, want *plain) {
	t.Helper()
	pages := len(want.page)
	switch k := r.below(20); {
	case k < 5:
		doAlloc(t, what, m, want)
	case k < 8:
		doRun(t, what, m, want, r.below(6)-1)
	case k < 9:
		doRun(t, what, m, want, r.below(pages+3)-1)
	case k < 15:
		doFree(t, what, m, want, r.below(pages+4)-2)
	case k < 17:
		if l := want.taken(); len(l) > 0 {
			doFree(t, what, m, want, l[r.below(len(l))])
		}
	case k < 19:
		doCommit(t, what, m, want)
	default:
		doAbort(t, what, m, want)
	}
}

// live leads a map through a life beside its plain one, and asks behind each act for all that it tells.
func live(t *testing.T, r *draws, pages, acts int) {
	t.Helper()
	m, want := opened(t, pages, r.list(pages)...)
	for i := range acts {
		what := fmt.Sprintf("of %d, act %d", pages, i)
		act(t, what, r, m, want)
		wantMap(t, what, m, want)
	}
}

// P8.2 to P8.4, R2: over whole lives each answer is as by the chapter's words, and what answers an error changes nothing.
func TestLives(t *testing.T) {
	for seed := range 100 {
		r := draws(seed)
		live(t, &r, 8+r.below(20), 150)
		live(t, &r, 8+r.below(200), 150)
	}
	r := draws(1000)
	for _, pages := range sizes {
		live(t, &r, pages, 100)
	}
}

// R1, P8.2 to P8.4: any life ends, and each answer is that of the chapter's words.
func FuzzLife(f *testing.F) {
	f.Add(uint32(1), uint16(130), uint8(50))
	f.Add(uint32(99), uint16(8), uint8(255))
	f.Fuzz(func(t *testing.T, seed uint32, size uint16, acts uint8) {
		r := draws(seed)
		live(t, &r, 8+int(size)%(api.MaxPages-7), int(acts))
	})
}
