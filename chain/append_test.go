package chain_test

import (
	"bytes"
	"fmt"
	"slices"
	"testing"

	"incipit/api"
	"incipit/chain"
)

// sized makes a chain of so many bytes, with so many pages more than they need; the empty one, if there are none.
func (l *lab) sized(count, spare int) api.Chain {
	l.t.Helper()
	if count == 0 {
		return api.Chain{}
	}
	return l.made(plainLeast(count)+spare, count, mark(0, 3))
}

// P17.2: chains of each size, with pages that bear nothing yet and without, get data of each size: how many pages, which is the last.
func TestAppendOfEachSize(t *testing.T) {
	for _, had := range []int{0, 1, 247, 248, 249, 496, 497, 992} {
		for _, spare := range []int{0, 1, 3} {
			for _, count := range []int{0, 1, 2, 246, 247, 248, 249, 495, 496, 497, 744, 1240, 3000} {
				l := begun(t, 50)
				l.what = fmt.Sprintf("%d bytes, %d pages more, %d bytes more", had, spare, count)
				c := l.sized(had, spare)
				d := l.longer(c, count)
				need, pages := plainLeast(had+count), c.Pages
				if need > pages {
					pages = max(need, 2*c.Pages)
				}
				if d.Pages != pages || d.Bytes != had+count || had > 0 && d.Head != c.Head {
					t.Fatal(l.what, c, d)
				}
				wantErr(t, l.what, l.reads(d), api.OK)
				wantErr(t, l.what, l.reads(c), api.OK)
			}
		}
	}
}

// P17.2: no data and no marks are the chain itself, whatever stands on its pages; nothing is done.
func TestAppendOfNoData(t *testing.T) {
	l := begun(t, 30)
	for _, c := range []api.Chain{{}, l.made(0, 1), l.made(0, 248), l.made(3, 300), l.made(0, 496)} {
		if c.Bytes > 0 {
			l.put(c.Tail, 0, 1, 2, 3, 4, 5, 6)
			c.Pages = max(1, plainLeast(c.Bytes)) // what the tail says of a next page counts for nothing
		}
		for _, data := range [][]byte{nil, {}} {
			if d, e := l.append(c, data); d != c || e != api.OK {
				t.Fatal("Append of no data to", c, "is", d, int(e))
			}
			for _, at := range []int{-1, 0, c.Bytes - 1, c.Bytes, c.Bytes + 1} {
				_, e := l.append(c, data, mark(at, 5))
				wantErr(t, "Append of a mark alone", e, api.ErrArg)
			}
		}
	}
}

// P17.1, P17.2: Append to the empty chain is New with as many pages as the data need.
func TestAppendToTheEmptyChain(t *testing.T) {
	for _, count := range []int{1, 248, 249, 1000, 4216, 4217} {
		a, b := begun(t, 20), begun(t, 20)
		marks := []api.Mark{mark(0, 3), mark(count-1, 9)}[:min(count, 2)]
		c, e := a.append(api.Chain{}, some(count), marks...)
		d, f := b.make(0, some(count), marks...)
		if c != d || e != f || (e == api.OK) != (count <= 4216) {
			t.Fatal(count, c, d, int(e), int(f))
		}
		if s := look(t, a.p).differs(look(t, b.p)); s != "" {
			t.Fatal(count, s)
		}
	}
}

// P17.2: where as many pages as it has are free, or as it needs, and one more, one fewer: it gets as many as it has, or as it needs, if that is more, or if so many are not free; else nothing is done.
func TestAppendWithJustRoom(t *testing.T) {
	for _, has := range []int{1, 2, 5} {
		for _, lack := range []int{1, 2, 4, 5, 6, 12} {
			for _, free := range []int{0, lack - 1, lack, lack + 1, has - 1, has, has + 1, 2 * has, 30} {
				l := begun(t, 80)
				l.what = fmt.Sprintf("has %d, lacks %d, %d free", has, lack, free)
				c := l.made(has, 200+248*(has-1))
				l.leave(free)
				d, e := l.append(c, some(48+248*lack), mark(c.Bytes, 9))
				switch more := max(has, lack); {
				case free < lack:
					wantErr(t, l.what, e, api.ErrFull)
				case free < more:
					if e != api.OK || d.Pages != has+lack || l.p.Avail() != free-lack {
						t.Fatal(l.what, d, int(e), l.p.Avail())
					}
				case e != api.OK || d.Pages != has+more || l.p.Avail() != free-more:
					t.Fatal(l.what, d, int(e), l.p.Avail())
				}
				wantErr(t, l.what, l.reads(c), api.OK)
			}
		}
	}
}

// P17.2: where nothing is free data that stay on the pages that it has go on.
func TestAppendWithoutRoom(t *testing.T) {
	l := begun(t, 20)
	c := l.made(3, 200, mark(0, 1))
	l.leave(0)
	for _, count := range []int{1, 47, 1, 247, 248} { // 201, all of the page, a new one begun, all of that, all there is
		c = l.longer(c, count, mark(c.Bytes, uint32(c.Bytes)))
		l.reads(c)
	}
	_, e := l.append(c, []byte{1})
	wantErr(t, "one byte more", e, api.ErrFull)
	if c != (api.Chain{Head: 3, Tail: 5, Pages: 3, Bytes: 744}) {
		t.Fatal(c)
	}
}

// P17.2: each byte of a page on which data begin, of one that they fill, of the one on which they end, and of one without a byte that bears nothing yet.
func TestAppendsPages(t *testing.T) {
	l := begun(t, 30)
	c := l.made(5, 100, mark(7, 70))
	for page := c.Head; page < c.Head+5; page++ { // whatever stands behind the end
		l.put(page, 8, bytes.Repeat([]byte{0xcc}, 248)...)
	}
	l.put(c.Head, 8, some(100)...)
	l.put(c.Head+2, 2, 0, 9, 1, 2, 3, 4)
	l.put(c.Head+3, 2, 0, 9, 1, 2, 3, 4)
	l.put(c.Head+4, 0, 9, 9)
	data := bytes.Repeat([]byte{0xdd}, 148+248+10)
	d, e := l.append(c, data, mark(102, 80), mark(300, 90), mark(301, 91))
	if e != api.OK || d != (api.Chain{Head: 3, Tail: 5, Pages: 5, Bytes: 506}) {
		t.Fatal(d, int(e))
	}
	for page, want := range map[int][]byte{
		3: slices.Concat([]byte{0, 4, 0, 8, 0, 0, 0, 70}, some(100), data[:148]),
		4: slices.Concat([]byte{0, 5, 0, 53, 0, 0, 0, 90}, data[:248]),
		5: slices.Concat([]byte{0, 6, 0, 0, 0, 0, 0, 0}, data[:10], make([]byte, 238)),
		6: slices.Concat([]byte{0, 7, 0, 9, 1, 2, 3, 4}, bytes.Repeat([]byte{0xcc}, 248)),
		7: slices.Concat([]byte{9, 9, 0, 0, 0, 0, 0, 0}, bytes.Repeat([]byte{0xcc}, 248)),
	} {
		if raw, _ := l.p.Raw(page); !bytes.Equal(raw, want) {
			t.Errorf("page %d is %v", page, raw)
		}
	}
}

// P17.2: a full page that gets a next one has all else as it was, whatever that is; so has one that bears nothing yet; the last page that gets a byte leads nowhere.
func TestPagesThatGetANextOneAlone(t *testing.T) {
	for _, ahead := range [][]byte{{0, 0, 0, 0, 0, 0, 0, 0}, {9, 9, 1, 44, 5, 6, 7, 8}, {0, 3, 0, 249, 0, 0, 0, 1}, {255, 255, 0, 248, 1, 1, 1, 1}, {0, 1, 0, 0, 9, 9, 9, 9}} {
		l := begun(t, 30)
		c := l.made(0, 496)
		l.put(4, 0, ahead...)
		d := l.longer(c, 1, mark(496, 77))
		if d != (api.Chain{Head: 3, Tail: 5, Pages: 4, Bytes: 497}) {
			t.Fatal(d)
		}
		full, _ := l.p.Raw(4)
		if !bytes.Equal(full, slices.Concat([]byte{0, 5}, ahead[2:], some(496)[248:])) {
			t.Errorf("the full page is %v", full)
		}
		l.put(6, 0, ahead...) // the last one, which bears nothing yet
		d = l.longer(d, 247+1)
		if last, _ := l.p.Raw(6); !bytes.Equal(last[:2], []byte{0, 0}) || d.Pages != 4 || d.Tail != 6 {
			t.Errorf("the last page is %v, %v", last[:8], d)
		}
		l.reads(d)
	}
}

// P17.2: data that need far more pages than there are, over pages that bear nothing yet, onto new ones.
func TestAppendOverAllPages(t *testing.T) {
	for _, spare := range []int{0, 1, 2, 5} {
		for _, had := range []int{1, 248, 300, 496} {
			l := begun(t, 60)
			c := l.sized(had, spare)
			var marks []api.Mark
			for at := c.Bytes; at < c.Bytes+5000; at += 100 {
				marks = append(marks, mark(at, uint32(at)))
			}
			d := l.longer(c, 5000, marks...)
			if d.Pages != max(plainLeast(had+5000), 2*c.Pages) {
				t.Fatal(c, d)
			}
			l.reads(d)
			l.reads(c)
		}
	}
}

// P17.2: the errors, in their order; nothing is done.
func TestAppendsErrors(t *testing.T) {
	l := begun(t, 20)
	c := l.made(0, 300)
	held := l.made(0, 10)
	l.commit()
	wantErr(t, "Drop", l.drop(held), api.OK)
	l.leave(0)
	wrong, bad, great := c, c, some(500)
	wrong.Tail = 99
	bad.Tail, bad.Head = bad.Head, bad.Tail // page 2 is not Tail
	for _, x := range []struct {
		c     api.Chain
		data  []byte
		marks []api.Mark
		want  api.Errno
	}{
		{wrong, great, []api.Mark{mark(0, 1)}, api.ErrChain},
		{wrong, nil, nil, api.ErrChain},
		{bad, great, []api.Mark{mark(0, 1)}, api.ErrChain},
		{bad, nil, nil, api.ErrChain},
		{held, great, []api.Mark{mark(0, 1)}, api.ErrChain},
		{held, nil, nil, api.ErrChain},
		{c, great, []api.Mark{mark(299, 1)}, api.ErrArg},
		{c, nil, []api.Mark{mark(300, 1)}, api.ErrArg},
		{c, great, []api.Mark{mark(300, 1)}, api.ErrFull},
		{c, nil, nil, api.OK},
		{c, some(196), []api.Mark{mark(300, 1)}, api.OK},
	} {
		if d, e := l.append(x.c, x.data, x.marks...); e != x.want || e != api.OK && d != (api.Chain{}) {
			t.Errorf("Append(%v, %d bytes, %v) is %v, error %d, not %d", x.c, len(x.data), x.marks, d, int(e), int(x.want))
		}
	}
	_, e := l.make(0, great, mark(500, 1))
	wantErr(t, "New of a wrong mark, without room", e, api.ErrArg)
	_, e = l.make(0, great, mark(499, 1))
	wantErr(t, "New without room", e, api.ErrFull)
}

// P17.2: what is held is neither put nor freed, but read; also a page that bears nothing yet.
func TestChainsThatAreHeld(t *testing.T) {
	for i := range 4 {
		l := begun(t, 30)
		c := l.made(4, 600, mark(0, 5))
		pages, _ := chain.Pages(l.p, c)
		l.commit()
		wantErr(t, "Free", l.p.Free(pages[i]), api.OK)
		_, e := l.append(c, []byte{1})
		wantErr(t, "Append to a chain with a held page", e, api.ErrChain)
		_, e = l.append(c, nil)
		wantErr(t, "Append of nothing to it", e, api.ErrChain)
		wantErr(t, "Drop of it", l.drop(c), api.ErrChain)
		wantErr(t, "Read of it", l.reads(c), api.OK)
		l.commit() // now the page is free
		wantErr(t, "Read, where it is free", l.reads(c), api.ErrChain)
	}
}
