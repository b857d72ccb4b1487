package chain_test

import (
	"bytes"
	"fmt"
	"math"
	"slices"
	"testing"

	"incipit/api"
	"incipit/chain"
	"incipit/disk"
	"incipit/pager"
)

// R5: of a pager that no call made each call answers ErrMade, whatever else is wrong.
func TestPagersThatNoCallMade(t *testing.T) {
	refused, e := pager.Format(nil, 4)
	wantErr(t, "Format", e, api.ErrMade)
	d, _ := disk.New(20)
	wrong, e := pager.Format(d, -1)
	wantErr(t, "Format", e, api.ErrArg)
	for what, p := range map[string]*pager.Pager{"nil": nil, "zero": {}, "new": new(pager.Pager), "refused": refused, "wrong": wrong} {
		for _, c := range append(goodChains, api.Chain{Head: 1}, api.Chain{Bytes: -1}) {
			for _, marks := range [][]api.Mark{nil, {mark(0, 3)}, {mark(-1, 3)}, {mark(math.MaxInt, 3), mark(0, 3)}} {
				for _, data := range [][]byte{nil, some(1), some(100000)} {
					for call, a := range answers(p, c, data, marks...) {
						if a.e != api.ErrMade || !a.zero {
							t.Fatalf("%s of a pager that is %s: error %d, all else is nothing: %v", call, what, int(a.e), a.zero)
						}
					}
				}
			}
		}
	}
}

// R1: no call panics, and each ends, at great numbers and wrong ones, together.
func TestAllKindsOfArguments(t *testing.T) {
	l := begun(t, 20)
	l.made(5, 700, mark(0, 4))
	numbers := append([]int{0, 1, 2, 3, 5, 7, 19, 20, 248, 700}, farNumbers...)
	r := draws(5)
	for range 20000 {
		pick := func() int { return numbers[r.below(len(numbers))] }
		c := api.Chain{Head: pick(), Tail: pick(), Pages: pick(), Bytes: pick()}
		chain.Check(c, pick())
		chain.Least(pick())
		marks := []api.Mark{mark(pick(), uint32(pick())), mark(pick(), uint32(pick()))}[:r.below(3)]
		_, e := chain.Append(l.p, c, some(r.below(3)), marks...)
		if e == api.OK || r.below(20) == 0 {
			chain.Drop(l.p, c)
		}
		if _, e = chain.New(l.p, pick(), some(r.below(600)), marks...); e == api.OK {
			l.abort()
			l.made(5, 700, mark(0, 4))
		}
		chain.Read(l.p, c)
		chain.Pages(l.p, c)
		chain.Seek(l.p, c, uint32(pick()))
	}
}

// R3: data and marks that are handed in are not written to, nor what stands behind them, and are not kept: their owner may change them.
func TestWhatIsHandedIn(t *testing.T) {
	l := begun(t, 60)
	c := api.Chain{}
	var all []byte
	for n := range 12 {
		room := append(some(400+n), bytes.Repeat([]byte{0xee}, 300)...)
		marks := []api.Mark{mark(c.Bytes+n, uint32(10*n)), mark(c.Bytes+300, uint32(10*n+5)), mark(7, 7), mark(9, 9)}
		wasRoom, wasMarks := bytes.Clone(room), slices.Clone(marks)
		data := room[: 400+n : len(room)-n%2*300] // with room behind it, or without
		call := l.append
		if n == 0 {
			call = func(_ api.Chain, data []byte, marks ...api.Mark) (api.Chain, api.Errno) {
				return l.make(3, data, marks...)
			}
		}
		d, e := call(c, data, marks[:2]...)
		wantErr(t, "the call", e, api.OK)
		if _, e := l.append(d, data, marks[1], marks[0]); e != api.ErrArg {
			t.Fatal("wrong marks", int(e))
		}
		if !bytes.Equal(room, wasRoom) || !slices.Equal(marks, wasMarks) {
			t.Fatal("what was handed in was written to")
		}
		all = append(all, data...)
		was := l.marksOf(d)
		for i := range room {
			room[i] ^= 0x5a
		}
		clear(marks)
		if b, e := chain.Read(l.p, d); e != api.OK || !bytes.Equal(b, all) {
			t.Fatal("the owner of the data changes the chain", int(e))
		}
		l.wantMarks(d, was...)
		c = d
	}
}

// R3: what is answered is nobody else's, with all the room that it has: written over, it is told again as it was.
func TestWhatIsAnswered(t *testing.T) {
	for _, spare := range []int{0, 3} {
		l := begun(t, 30)
		c := l.sized(700, spare)
		w := look(t, l.p)
		for range 3 {
			b, e := chain.Read(l.p, c)
			pages, f := chain.Pages(l.p, c)
			if e != api.OK || f != api.OK || !bytes.Equal(b, some(700)) || len(pages) != 3+spare || pages[0] != 3 {
				t.Fatal("Read and Pages", int(e), int(f), b, pages)
			}
			more, _ := chain.Read(l.p, c)
			b, pages = b[:cap(b)], pages[:cap(pages)]
			for i := range b {
				b[i] ^= 0x5a
			}
			for i := range pages {
				pages[i] = -1
			}
			if !bytes.Equal(more, some(700)) {
				t.Fatal("two answers share memory")
			}
			if s := w.differs(look(t, l.p)); s != "" {
				t.Fatal("the pages are changed by an answer:", s)
			}
		}
	}
}

// R4: empty and nil lists are the same.
func TestEmptyAndNil(t *testing.T) {
	was := ""
	one := []api.Mark{mark(0, 1)}
	for _, data := range [][]byte{nil, {}, some(3)[:0]} {
		for _, marks := range [][]api.Mark{nil, {}, one[:0]} {
			l := begun(t, 20)
			c := l.sized(300, 1)
			n, e := chain.New(l.p, 3, data, marks...)
			a, f := chain.Append(l.p, c, data, marks...)
			m, g := chain.New(l.p, 3, some(250), marks...)
			b, h := chain.Append(l.p, c, some(250), marks...)
			is := fmt.Sprint(n, e, a, f, m, g, b, h, look(t, l.p))
			if was != "" && is != was {
				t.Fatal("empty and nil differ", is, was)
			}
			was = is
		}
	}
}

// R6: the same calls answer the same.
func TestTheSameCallsAnswerTheSame(t *testing.T) {
	all := func(seed draws) string {
		v := born(t, 40)
		for range 200 {
			v.act(&seed, seed.below(24))
		}
		return fmt.Sprint(v.now, look(t, v.p))
	}
	was := all(45)
	all(46)
	if all(45) != was {
		t.Error("the same calls answer something else")
	}
}

// THE BOUND: chains of as many pages as there are, made, read and dropped, also such as are held; many marks; data of which there are far too many.
func TestGreatChains(t *testing.T) {
	d, _ := disk.New(2048)
	p, e := pager.Format(d, 64)
	wantErr(t, "Format", e, api.OK)
	data := some(2000 * 248)
	var marks []api.Mark
	for at := range data {
		marks = append(marks, mark(at, uint32(at)))
	}
	c, e := chain.New(p, 1000, data[:500*248], marks[:500*248]...)
	if e != api.OK || c.Pages != 1000 {
		t.Fatal("New", c, int(e))
	}
	c, e = chain.Append(p, c, data[500*248:], marks[500*248:]...)
	if e != api.OK || c.Pages != 2000 {
		t.Fatal("Append", c, int(e))
	}
	reads := func() {
		b, e := chain.Read(p, c)
		if e != api.OK || !bytes.Equal(b, data) {
			t.Fatal("Read", len(b), int(e))
		}
		for _, doc := range []uint32{0, 247, 248, 1<<32 - 1} {
			m, e := chain.Seek(p, c, doc)
			if want := min(int(doc), len(data)-1) / 248 * 248; e != api.OK || m != mark(want, uint32(want)) {
				t.Fatal("Seek of", doc, "is", m, int(e))
			}
		}
	}
	reads()
	wantErr(t, "Commit", p.Commit(nil), api.OK)
	wantErr(t, "Drop", chain.Drop(p, c), api.OK)
	reads() // all are held
	wantErr(t, "Commit", p.Commit(nil), api.OK)
	for range 20 {
		_, e = chain.New(p, math.MaxInt, make([]byte, 100<<20))
		wantErr(t, "New of far too many data", e, api.ErrFull)
	}
}
