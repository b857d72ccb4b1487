package chain_test

import (
	"bytes"
	"fmt"
	"math"
	"slices"
	"testing"

	"incipit/api"
	"incipit/chain"
)

// marksOf is the marks that a chain's pages say, asked by Seek of each document in turn; where documents rise.
func (l *lab) marksOf(c api.Chain) []api.Mark {
	l.t.Helper()
	w := look(l.t, l.p)
	pages, e := w.pages(c, false)
	wantErr(l.t, "its pages", e, api.OK)
	marks := w.marks(pages, c.Bytes)
	for i, m := range marks {
		if got, e := chain.Seek(l.p, c, m.Doc); got != m || e != api.OK {
			l.t.Fatalf("%s: the mark %d: Seek is %v, error %d, not %v", l.what, i, got, int(e), m)
		}
	}
	return marks
}

func (l *lab) wantMarks(c api.Chain, want ...api.Mark) {
	l.t.Helper()
	if marks := l.marksOf(c); !slices.Equal(marks, want) {
		l.t.Fatalf("%s: marks are %v, not %v", l.what, marks, want)
	}
}

// P17.2: marks on a page's first and last place, several on one page, one on each, none on some: the first one of a page counts.
func TestMarksOfNew(t *testing.T) {
	for _, x := range []struct{ marks, want []api.Mark }{
		{nil, nil},
		{[]api.Mark{mark(0, 3)}, []api.Mark{mark(0, 3)}},
		{[]api.Mark{mark(247, 3)}, []api.Mark{mark(247, 3)}},
		{[]api.Mark{mark(248, 3)}, []api.Mark{mark(248, 3)}},
		{[]api.Mark{mark(495, 3), mark(496, 4)}, []api.Mark{mark(495, 3), mark(496, 4)}},
		{[]api.Mark{mark(999, 1<<32-1)}, []api.Mark{mark(999, 1<<32-1)}},
		{[]api.Mark{mark(5, 0)}, []api.Mark{mark(5, 0)}},
		{[]api.Mark{mark(3, 3), mark(4, 4), mark(247, 5), mark(250, 6), mark(495, 7), mark(800, 8), mark(801, 9)}, []api.Mark{mark(3, 3), mark(250, 6), mark(800, 8)}},
		{[]api.Mark{mark(0, 3), mark(248, 4), mark(496, 5), mark(744, 6), mark(992, 7)}, []api.Mark{mark(0, 3), mark(248, 4), mark(496, 5), mark(744, 6), mark(992, 7)}},
		{[]api.Mark{mark(247, 3), mark(495, 4), mark(743, 5), mark(991, 6), mark(999, 7)}, []api.Mark{mark(247, 3), mark(495, 4), mark(743, 5), mark(991, 6), mark(999, 7)}},
	} {
		l := begun(t, 30)
		l.wantMarks(l.made(0, 1000, x.marks...), x.want...)
		l.wantMarks(l.made(9, 1000, x.marks...), x.want...)
	}
}

// P17.2: each mark, alone, at each place of a page and on both sides of it.
func TestMarksAtEachPlace(t *testing.T) {
	l := begun(t, 20)
	for at := range 300 {
		c := l.made(0, 300, mark(at, uint32(at)))
		l.wantMarks(c, mark(at, uint32(at)))
		l.abort()
	}
	c := l.made(0, 10)
	l.commit()
	for at := 10; at < 300; at++ {
		l.wantMarks(l.longer(c, 290, mark(at, uint32(at))), mark(at, uint32(at)))
		l.abort()
	}
}

// P17.2: a page that had a mark ahead of where the data begin keeps it, on whatever place it is; one without it gets the first one of the data's, or none.
func TestMarksOfAppend(t *testing.T) {
	for _, had := range [][]api.Mark{nil, {mark(0, 3)}, {mark(40, 3)}, {mark(99, 3)}, {mark(40, 3), mark(99, 4)}} {
		for _, come := range [][]api.Mark{nil, {mark(100, 8)}, {mark(101, 8)}, {mark(247, 8)}, {mark(248, 8)}, {mark(399, 8)}, {mark(110, 8), mark(111, 9), mark(300, 10), mark(310, 11)}} {
			l := begun(t, 30)
			c := l.made(3, 100, had...)
			want := had[:min(len(had), 1)]
			for _, m := range come {
				if m.At/248 == 0 && len(want) == 0 || m.At/248 == 1 && (len(want) == 0 || want[len(want)-1].At < 248) {
					want = append(slices.Clone(want), m)
				}
			}
			d := l.longer(c, 300, come...)
			l.wantMarks(d, want...)
			l.wantMarks(c, had[:min(len(had), 1)]...)
		}
	}
}

// P17.2: a page whose mark is behind the end, or is none, gets the data's first one; one without any has off and first 0.
func TestMarksBehindTheEnd(t *testing.T) {
	for _, off := range []int{0, 101, 102, 248, 249, 250, 256, 357, 65535} {
		for _, come := range [][]api.Mark{nil, {mark(105, 8)}, {mark(248, 8)}} {
			l := begun(t, 20)
			c := l.made(0, 100)
			l.put(3, 2, byte(off>>8), byte(off), 0, 0, 0, 2)
			l.wantMarks(c)
			d := l.longer(c, 200, come...)
			l.wantMarks(d, come...)
			want := make([]byte, 6)
			if len(come) > 0 && come[0].At < 248 {
				want = []byte{0, 106, 0, 0, 0, 8}
			}
			if raw, _ := l.p.Raw(3); !bytes.Equal(raw[2:8], want) {
				t.Errorf("off %d: the page has %v", off, raw[:8])
			}
			l.wantMarks(c)
		}
	}
	l := begun(t, 20)
	c := l.made(0, 100)
	l.put(3, 2, 0, 100, 0, 0, 0, 2) // on the last place: not behind the end
	l.wantMarks(l.longer(c, 200, mark(105, 8)), mark(99, 2))
}

// P17.2, P17.3: marks of pages that bear nothing yet count for nothing, and are none ahead of where data begin there.
func TestMarksOfPagesThatBearNothing(t *testing.T) {
	l := begun(t, 20)
	c := l.made(4, 248, mark(5, 6))
	for page := 4; page < 7; page++ {
		l.put(page, 2, 0, 1, 0, 0, 0, 9)
	}
	l.wantMarks(c, mark(5, 6))
	c = l.longer(c, 1)
	l.wantMarks(c, mark(5, 6))
	c = l.longer(c, 300, mark(250, 7))
	l.wantMarks(c, mark(5, 6), mark(250, 7))
	c = l.longer(c, 195, mark(743, 8))
	l.wantMarks(c, mark(5, 6), mark(250, 7), mark(743, 8))
	if raw, _ := l.p.Raw(6); offOf(raw) != 1 || firstOf(raw) != 9 {
		t.Error("the page without a byte is", raw[:8])
	}
}

// wrongMarks are marks that may not be with bytes from a place on, ahead of an end.
func wrongMarks(from, end int) [][]api.Mark {
	l := [][]api.Mark{
		{mark(from, 1), mark(from, 1)}, {mark(from+1, 1), mark(from, 2)}, {mark(end-1, 1), mark(end-1, 2)}, {mark(end-1, 1), mark(from, 2)},
		{mark(from, 1), mark(from+1, 2), mark(from+1, 3)}, {mark(from, 1), mark(from+2, 2), mark(from+1, 3), mark(from+3, 4)},
		{mark(from, 1), mark(end, 2)}, {mark(from-1, 1), mark(from, 2)}, {mark(from, 1), mark(end-1, 2), mark(end+1, 3)},
	}
	for _, at := range append([]int{from - 1, end, end + 1, end + 248, from - 248}, farNumbers...) {
		l = append(l, []api.Mark{mark(at, 1)}, []api.Mark{mark(at, 0), mark(from, 1)}, []api.Mark{mark(from, 1), mark(at, 2)})
	}
	return l
}

// P17.2: marks whose places are the same, fall, are ahead of the chain's bytes, at their end or behind it; documents may be as they will.
func TestWrongMarks(t *testing.T) {
	l := begun(t, 30)
	for _, had := range []int{0, 100, 248, 300} {
		c := l.sized(had, 0)
		for _, marks := range wrongMarks(had, had+300) {
			_, e := l.append(c, some(300), marks...)
			wantErr(t, fmt.Sprint("Append, marks ", marks), e, api.ErrArg)
			if had == 0 {
				_, e = l.make(3, some(300), marks...)
				wantErr(t, fmt.Sprint("New, marks ", marks), e, api.ErrArg)
			}
		}
		for _, marks := range [][]api.Mark{{mark(had, 9), mark(had+1, 9), mark(had+299, 2)}, {mark(had+299, 0)}, {mark(had, math.MaxUint32), mark(had+200, 0)}} {
			l.longer(c, 300, marks...)
			l.abort()
			c = l.sized(had, 0)
		}
	}
}
