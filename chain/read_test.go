package chain_test

import (
	"bytes"
	"fmt"
	"math"
	"slices"
	"testing"

	"incipit/api"
	"incipit/chain"
)

// P17.3: the empty chain has no bytes, no pages, no marks; Append of nothing and Drop of it do nothing.
func TestTheEmptyChain(t *testing.T) {
	l := begun(t, 20)
	for range 2 {
		l.wantAllOfNothing()
		l.made(0, 300, mark(0, 0))
		l.commit()
	}
}

func (l *lab) wantAllOfNothing() {
	l.t.Helper()
	none := api.Chain{}
	wantErr(l.t, "Read", l.reads(none), api.OK)
	b, _ := chain.Read(l.p, none)
	pages, _ := chain.Pages(l.p, none)
	if len(b) != 0 || len(pages) != 0 {
		l.t.Fatal("the empty chain has", b, pages)
	}
	for _, doc := range []uint32{0, 1, math.MaxUint32} {
		if m, e := chain.Seek(l.p, none, doc); m != (api.Mark{}) || e != api.OK {
			l.t.Fatal("Seek in the empty chain is", m, int(e))
		}
	}
	wantErr(l.t, "Drop", l.drop(none), api.OK)
}

// P17.3: the bytes and the pages of chains of one page, and of many; with pages that bear nothing yet.
func TestReadAndPages(t *testing.T) {
	for _, count := range []int{1, 2, 247, 248, 249, 496, 1000, 3000} {
		for _, spare := range []int{0, 1, 4} {
			l := begun(t, 40)
			c := l.sized(count, spare)
			wantErr(t, "reads", l.reads(c), api.OK)
			b, e := chain.Read(l.p, c)
			if e != api.OK || !bytes.Equal(b, some(count)) {
				t.Error("Read of", c, "is", b, int(e))
			}
			var want []int
			for page := range c.Pages {
				want = append(want, 3+page)
			}
			if pages, e := chain.Pages(l.p, c); e != api.OK || !slices.Equal(pages, want) {
				t.Error("Pages of", c, "are", pages, int(e))
			}
		}
	}
}

// P17.3: Seek of a document below the first mark, at each, between, above, of 0 and the greatest; its At is the place in the chain.
func TestSeek(t *testing.T) {
	l := begun(t, 20)
	c := l.made(0, 1200, mark(10, 5), mark(300, 8), mark(301, 9), mark(743, 20), mark(1100, 4000000000))
	for doc, want := range map[uint32]api.Mark{
		0: {}, 1: {}, 4: {}, 5: mark(10, 5), 6: mark(10, 5), 7: mark(10, 5), 8: mark(300, 8), 9: mark(300, 8), 19: mark(300, 8), 20: mark(743, 20), 21: mark(743, 20),
		1 << 31: mark(743, 20), 3999999999: mark(743, 20), 4000000000: mark(1100, 4000000000), math.MaxUint32: mark(1100, 4000000000),
	} {
		if m, e := chain.Seek(l.p, c, doc); m != want || e != api.OK {
			t.Errorf("Seek of %d is %v, error %d, not %v", doc, m, int(e), want)
		}
	}
	none := l.made(3, 600)
	zero := l.made(3, 600, mark(0, 0), mark(599, math.MaxUint32))
	for _, doc := range []uint32{0, 1, 77, math.MaxUint32 - 1} {
		if m, e := chain.Seek(l.p, none, doc); m != (api.Mark{}) || e != api.OK {
			t.Errorf("Seek of %d without a mark is %v, error %d", doc, m, int(e))
		}
		if m, e := chain.Seek(l.p, zero, doc); m != (api.Mark{}) || e != api.OK {
			t.Errorf("Seek of %d is %v, error %d", doc, m, int(e))
		}
	}
	if m, e := chain.Seek(l.p, zero, math.MaxUint32); m != mark(599, math.MaxUint32) || e != api.OK {
		t.Errorf("Seek of the greatest document is %v, error %d", m, int(e))
	}
}

// P17.3: where marks' documents do not rise the last one counts that is at most doc.
func TestSeekWhereDocumentsFall(t *testing.T) {
	l := begun(t, 20)
	c := l.made(0, 1200, mark(10, 50), mark(300, 8), mark(500, 30), mark(800, 8), mark(1000, 40))
	for doc, want := range map[uint32]api.Mark{7: {}, 8: mark(800, 8), 29: mark(800, 8), 30: mark(800, 8), 39: mark(800, 8), 40: mark(1000, 40), 50: mark(1000, 40), 60: mark(1000, 40)} {
		if m, e := chain.Seek(l.p, c, doc); m != want || e != api.OK {
			t.Errorf("Seek of %d is %v, error %d, not %v", doc, m, int(e), want)
		}
	}
}

// P17.3: of a page by hand: off of each number; the mark is ahead of the chain's end, or none.
func TestSeekOfMarksByHand(t *testing.T) {
	l := begun(t, 20)
	c := l.made(3, 300)
	for page := 3; page <= 5; page++ {
		for off := range 260 {
			l.put(page, 2, byte(off>>8), byte(off), 0, 0, 0, 7)
			var want api.Mark
			if at := (page-3)*248 + off - 1; off != 0 && off <= 248 && at < 300 {
				want = mark(at, 7)
			}
			if m, e := chain.Seek(l.p, c, 9); m != want || e != api.OK {
				t.Fatalf("page %d, off %d: Seek is %v, error %d, not %v", page, off, m, int(e), want)
			}
		}
		l.put(page, 2, 0, 0)
	}
}

// P17.3: Drop frees just the chain's pages, those that bear nothing yet, too: at once, if they are of this transaction, else when it is committed.
func TestDrop(t *testing.T) {
	for _, spare := range []int{0, 1, 6} {
		for _, count := range []int{1, 248, 249, 1000} {
			l := begun(t, 40)
			other := l.made(2, 100)
			taken, free := l.p.Taken(), l.p.Avail()
			c := l.sized(count, spare)
			wantErr(t, "Drop", l.drop(c), api.OK)
			if !slices.Equal(l.p.Taken(), taken) || l.p.Avail() != free {
				t.Fatal("taken are", l.p.Taken(), "not", taken)
			}
			wantErr(t, "Read behind Drop", l.reads(c), api.ErrChain)
			wantErr(t, "Drop behind Drop", l.drop(c), api.ErrChain)

			c = l.sized(count, spare)
			l.commit()
			free = l.p.Avail()
			wantErr(t, "Drop", l.drop(c), api.OK)
			if l.p.Avail() != free {
				t.Fatal("what is held is free")
			}
			wantErr(t, "Read behind Drop", l.reads(c), api.OK)
			wantErr(t, "Drop behind Drop", l.drop(c), api.ErrChain)
			l.commit()
			if l.p.Avail() != free+c.Pages {
				t.Fatal(fmt.Sprint(l.p.Avail(), " pages are free, not ", free+c.Pages))
			}
			wantErr(t, "Read of another chain", l.reads(other), api.OK)
		}
	}
}

// P17.3: an earlier chain with fewer pages frees those alone.
func TestDropOfAnEarlierChain(t *testing.T) {
	l := begun(t, 40)
	c := l.made(0, 500)
	l.longer(c, 600)
	free := l.p.Avail()
	wantErr(t, "Drop", l.drop(c), api.OK)
	if l.p.Avail() != free+3 {
		t.Fatal(l.p.Avail(), free)
	}
}
