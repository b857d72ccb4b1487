package chain_test

import (
	"bytes"
	"fmt"
	"math"
	"slices"
	"testing"

	"incipit/api"
	"incipit/chain"
)

// The chapter's example, byte by byte.
func TestExample(t *testing.T) {
	l := begun(t, 20)
	c := l.made(0, 300, mark(0, 5))
	if c != (api.Chain{Head: 3, Tail: 4, Pages: 2, Bytes: 300}) {
		t.Fatal("New is", c)
	}
	first, _ := l.p.Raw(3)
	second, _ := l.p.Raw(4)
	if !bytes.Equal(first, slices.Concat([]byte{0, 4, 0, 1, 0, 0, 0, 5}, some(300)[:248])) {
		t.Error("the first page is", first)
	}
	if !bytes.Equal(second, slices.Concat(make([]byte, 8), some(300)[248:], make([]byte, 196))) {
		t.Error("the second page is", second)
	}
	c = l.longer(c, 600)
	if c != (api.Chain{Head: 3, Tail: 6, Pages: 4, Bytes: 900}) {
		t.Error("Append is", c)
	}
}

// P17.1: how many pages so many bytes need.
func TestLeast(t *testing.T) {
	for bytes, want := range map[int]int{math.MinInt: 0, -248: 0, -1: 0, 0: 0, 1: 1, 247: 1, 248: 1, 249: 2, 496: 2, 497: 3, 744: 3, 745: 4, 248 << 40: 1 << 40, math.MaxInt - 7: math.MaxInt / 248, math.MaxInt: math.MaxInt/248 + 1} {
		if n := chain.Least(bytes); n != want {
			t.Errorf("Least(%d) is %d, not %d", bytes, n, want)
		}
	}
	for bytes := -10; bytes < 3000; bytes++ {
		if n := chain.Least(bytes); n != plainLeast(bytes) {
			t.Errorf("Least(%d) is %d", bytes, n)
		}
	}
}

// farNumbers are numbers that no chain has.
var farNumbers = []int{math.MinInt, math.MinInt + 3, -1 << 40, -1<<32 + 3, -1 << 31, -65536 + 3, -256, -2, -1, 1 << 31, 1<<32 + 3, 1 << 40, math.MaxInt - 1, math.MaxInt}

// goodChains are chains that may be on 20 pages.
var goodChains = []api.Chain{
	{}, {Head: 3, Tail: 3, Pages: 1, Bytes: 1}, {Head: 2, Tail: 2, Pages: 1, Bytes: 248}, {Head: 19, Tail: 19, Pages: 20, Bytes: 248},
	{Head: 3, Tail: 4, Pages: 2, Bytes: 249}, {Head: 19, Tail: 2, Pages: 2, Bytes: 496}, {Head: 3, Tail: 4, Pages: 20, Bytes: 249}, {Head: 2, Tail: 19, Pages: 20, Bytes: 4960},
}

// P17.1: of what may be each reason alone for which it may not.
func TestCheckOfEachReason(t *testing.T) {
	for _, c := range goodChains {
		wantErr(t, fmt.Sprint("Check of ", c), chain.Check(c, 20), api.OK)
		if c == (api.Chain{}) {
			continue
		}
		page := func(n int) []api.Chain {
			head, tail, both := c, c, c
			head.Head, tail.Tail, both.Head, both.Tail = n, n, n, n
			return []api.Chain{head, tail, both}
		}
		var bad []api.Chain
		for _, n := range append([]int{0, 1, 20, 21}, farNumbers...) {
			bad = append(bad, page(n)...)
		}
		for _, n := range append([]int{0, chain.Least(c.Bytes) - 1, 21}, farNumbers...) {
			few := c
			few.Pages = n
			bad = append(bad, few)
		}
		for _, n := range append([]int{0, 248*c.Pages + 1}, farNumbers...) {
			other := c
			other.Bytes = n
			bad = append(bad, other)
		}
		ends := c
		if ends.Tail = ends.Head; c.Bytes <= 248 { // Head is Tail where two are needed, or is not where one is
			ends.Tail = 2 + 19 - ends.Head
		}
		for _, c := range append(bad, ends) {
			wantErr(t, fmt.Sprint("Check of ", c), chain.Check(c, 20), api.ErrChain)
		}
	}
}

// P17.1: the empty chain may be on any number of pages, and all others where their pages are.
func TestCheckOfManyNumbersOfPages(t *testing.T) {
	for _, c := range goodChains {
		empty := c == (api.Chain{})
		for _, pages := range append([]int{-3, 0, 1, 2}, farNumbers...) {
			want := api.OK
			if !empty && pages < 3 {
				want = api.ErrChain
			}
			wantErr(t, fmt.Sprintf("Check(%v, %d)", c, pages), chain.Check(c, pages), want)
		}
		for pages := range 30 {
			want := api.OK
			if !empty && (pages <= max(c.Head, c.Tail) || pages < c.Pages) {
				want = api.ErrChain
			}
			wantErr(t, fmt.Sprintf("Check(%v, %d)", c, pages), chain.Check(c, pages), want)
		}
	}
	great := api.Chain{Head: 2, Tail: 3, Pages: math.MaxInt - 1, Bytes: math.MaxInt}
	wantErr(t, "Check of a great chain", chain.Check(great, math.MaxInt), api.OK)
	wantErr(t, "Check of one that is too great", chain.Check(great, math.MaxInt-2), api.ErrChain)
	great.Pages = math.MaxInt / 248
	wantErr(t, "Check of one that has too few pages", chain.Check(great, math.MaxInt), api.ErrChain)
}

// P17.1: all small chains, as the chapter's words have it.
func TestCheckOfSmallChains(t *testing.T) {
	pages := []int{-1, 0, 1, 2, 3, 4, 5}
	for _, head := range pages {
		for _, tail := range pages {
			for _, count := range pages {
				for _, bytes := range []int{-249, -248, -1, 0, 1, 247, 248, 249, 496, 497, 744, 992, 993, 1240, 1241} {
					for on := range 7 {
						c := api.Chain{Head: head, Tail: tail, Pages: count, Bytes: bytes}
						if may := chain.Check(c, on) == api.OK; may != plainMayBe(c, on) {
							t.Fatalf("Check(%v, %d) is OK: %v", c, on, may)
						}
					}
				}
			}
		}
	}
}

// wishes are numbers of pages that New is asked for.
var wishes = append([]int{0, 1, 2, 3, 4, 5, 7, 16, 17, 18, 300}, farNumbers...)

// P17.1: no data are the empty chain, and no marks are among them; nothing is done.
func TestNewOfNoData(t *testing.T) {
	l := begun(t, 20)
	for _, wish := range wishes {
		for _, data := range [][]byte{nil, {}} {
			if c, e := l.make(wish, data); c != (api.Chain{}) || e != api.OK {
				t.Fatal("New of no data", c, e)
			}
			for _, at := range []int{0, -1, 1, math.MinInt, math.MaxInt} {
				_, e := l.make(wish, data, mark(at, 5))
				wantErr(t, "New of a mark alone", e, api.ErrArg)
			}
		}
	}
}

// P17.1: data of each size beside a page's, with each number of pages that may be wished: as many pages as are wished, or as are needed.
func TestNewOfEachSize(t *testing.T) {
	for _, count := range []int{1, 2, 247, 248, 249, 495, 496, 497, 1240, 1241, 4216} {
		for _, wish := range wishes {
			l := begun(t, 20) // of which 17 are free
			c := l.made(wish, count)
			need := plainLeast(count)
			pages := need
			if wish > need && wish <= 17 {
				pages = wish
			}
			if c != (api.Chain{Head: 3, Tail: 2 + need, Pages: pages, Bytes: count}) || l.p.Avail() != 17-pages {
				t.Fatalf("New(%d, %d bytes) is %v; %d pages are free", wish, count, c, l.p.Avail())
			}
			l.reads(c)
		}
	}
}

// P17.1: where just as many are free as are needed, or wished, one fewer, one more.
func TestNewWithJustRoom(t *testing.T) {
	for _, need := range []int{1, 2, 5} {
		for _, wish := range []int{-1, 0, need - 1, need, need + 1, need + 3, 2 * need} {
			for _, free := range []int{0, need - 1, need, need + 1, wish - 1, wish, wish + 1} {
				l := begun(t, 30)
				l.leave(max(free, 0))
				l.what = fmt.Sprintf("%d needed, %d wished, %d free", need, wish, free)
				c, e := l.make(wish, some(248*need), mark(3, 8))
				switch {
				case free < need:
					wantErr(t, l.what, e, api.ErrFull)
					if l.p.Avail() != max(free, 0) {
						t.Fatal(l.what, l.p.Avail())
					}
				case wish > need && wish <= free:
					if e != api.OK || c.Pages != wish || l.p.Avail() != free-wish {
						t.Fatal(l.what, c, e, l.p.Avail())
					}
				case e != api.OK || c.Pages != need || l.p.Avail() != free-need:
					t.Fatal(l.what, c, e, l.p.Avail())
				}
			}
		}
	}
}

// P17.1, P17.2: the lowest free pages are taken first, in their order; held ones are not.
func TestNewTakesTheLowestFreePages(t *testing.T) {
	l := begun(t, 20)
	l.leave(0)
	l.commit0() // pages are let go, the map moves
	for _, page := range []int{4, 9, 10, 15} {
		wantErr(t, "Free", l.p.Free(page), api.OK)
	}
	l.commit()
	free := look(t, l.p).free()
	wantErr(t, "Free", l.p.Free(free[0]+1), api.OK) // held
	c := l.made(3, 300, mark(20, 5), mark(260, 6))
	pages, e := chain.Pages(l.p, c)
	if e != api.OK || !slices.Equal(pages, free[:3]) || c.Tail != free[1] {
		t.Fatal("its pages are", pages, "free were", free)
	}
}

// commit0 lets a page go, and commits, on a device that is full.
func (l *lab) commit0() {
	l.t.Helper()
	wantErr(l.t, "Free", l.p.Free(19), api.OK)
	l.commit()
}

// P17.1: each byte of each page, also of those without one of the data, also where others stood there ahead of it.
func TestNewsPages(t *testing.T) {
	l := begun(t, 20)
	for page := 3; page < 13; page++ {
		l.p.NewRaw(bytes.Repeat([]byte{0xee}, 256))
	}
	for page := 3; page < 13; page++ {
		l.p.Free(page)
	}
	c := l.made(5, 500, mark(250, 1<<32-1), mark(252, 7), mark(496, 0x01020304))
	for page, want := range map[int][]byte{
		3: slices.Concat([]byte{0, 4, 0, 0, 0, 0, 0, 0}, some(500)[:248]),
		4: slices.Concat([]byte{0, 5, 0, 3, 255, 255, 255, 255}, some(500)[248:496]),
		5: slices.Concat([]byte{0, 6, 0, 1, 1, 2, 3, 4}, some(500)[496:], make([]byte, 244)),
		6: append([]byte{0, 7}, make([]byte, 254)...),
		7: make([]byte, 256),
	} {
		if raw, _ := l.p.Raw(page); !bytes.Equal(raw, want) {
			t.Errorf("page %d is %v", page, raw)
		}
	}
	if c != (api.Chain{Head: 3, Tail: 5, Pages: 5, Bytes: 500}) {
		t.Error(c)
	}
	wide := begun(t, 700) // page numbers of two bytes
	wide.leave(300)
	c = wide.made(0, 300)
	if raw, _ := wide.p.Raw(c.Head); raw[0] != 1 || int(raw[1]) != c.Tail-256 {
		t.Error(c, raw[:8])
	}
}
