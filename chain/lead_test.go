package chain_test

import (
	"fmt"
	"slices"
	"testing"

	"incipit/api"
	"incipit/chain"
)

// wantAll asks that each call that goes over a chain's pages answers that error.
func (l *lab) wantAll(what string, c api.Chain, want api.Errno) {
	l.t.Helper()
	l.what = what
	wantErr(l.t, what+": Read, Pages, Seek", l.reads(c), want)
	_, e := l.append(c, nil)
	wantErr(l.t, what+": Append of no data", e, want)
	d, e := l.append(c, some(5), mark(c.Bytes, 9))
	wantErr(l.t, what+": Append", e, want)
	if e == api.OK {
		c = d
	}
	wantErr(l.t, what+": Drop", l.drop(c), want)
}

// five is a chain on pages 3 to 7, of which the last two bear nothing yet; page 2 is the map, 8 is another's, 9 is free.
func five(t *testing.T) (*lab, api.Chain) {
	l := begun(t, 20)
	c := l.made(5, 700, mark(0, 4), mark(300, 5))
	_, e := l.p.NewRaw([]byte{0, 9})
	wantErr(t, "NewRaw", e, api.OK)
	return l, c
}

// lead lays by hand which page each of a chain's says as the next one.
func (l *lab) lead(pages ...int) {
	l.t.Helper()
	for i, page := range pages[:len(pages)-1] {
		l.put(page, 0, byte(pages[i+1]>>8), byte(pages[i+1]))
	}
}

// P17.2, P17.3: each reason for which pages do not lead on, at each place: a page that is free, that stands there twice, 0, 1, a map, one that there is not.
func TestPagesThatDoNotLeadOn(t *testing.T) {
	for at := 1; at < 5; at++ {
		for _, next := range []int{0, 1, 2, 3, 3 + at - 1, 9, 10, 19, 20, 21, 255, 256, 256 + 4, 2048, 65535} {
			l, c := five(t)
			pages := []int{3, 4, 5, 6, 7}[:at]
			l.lead(append(pages, next)...)
			l.wantAll(fmt.Sprintf("page %d is %d", at+1, next), c, api.ErrChain)
		}
	}
	l, c := five(t)
	l.wantAll("nothing was changed", c, api.OK)
}

// P17.2: pages may lead through any that are taken, and no map: also such as were another's.
func TestPagesThatLeadElsewhere(t *testing.T) {
	l, c := five(t)
	l.lead(3, 4, 5, 8, 7)
	l.wantAll("through another's page", c, api.OK)
	l, c = five(t)
	l.lead(3, 7, 5, 6, 4)
	l.wantAll("in another order", c, api.OK)
	l, c = five(t)
	l.lead(3, 5, 4, 6, 7)
	l.wantAll("in an order in which the last byte stands elsewhere", c, api.ErrChain)
}

// P17.2, P17.3: page Least(Bytes) is not Tail; whether those behind it lead on.
func TestTailsThatAreNot(t *testing.T) {
	l, c := five(t)
	for tail := 2; tail < 20; tail++ {
		d := c
		d.Tail = tail
		if tail != 5 {
			l.wantAll(fmt.Sprint("the tail is ", tail), d, api.ErrChain)
		}
	}
	for bytes := 1; bytes <= 5*248; bytes++ {
		d := c
		d.Bytes = bytes
		if bytes == 496 || bytes == 497 || bytes == 744 || bytes == 745 || bytes%97 == 0 {
			want := api.ErrChain
			if plainLeast(bytes) == 3 {
				want = api.OK
			}
			wantErr(t, fmt.Sprint(bytes, " bytes"), l.reads(d), want)
		}
	}
	for pages := 3; pages <= 5; pages++ { // fewer pages than there are lead on, too
		d := c
		d.Pages = pages
		wantErr(t, fmt.Sprint(pages, " pages"), l.reads(d), api.OK)
	}
	d := c
	d.Pages = 6
	l.wantAll("a page more than there are", d, api.ErrChain)
}

// P17.1: a chain that may not be is ErrChain of each call, whatever stands on its pages.
func TestChainsThatMayNotBe(t *testing.T) {
	l, c := five(t)
	for _, n := range append([]int{0, 1, 20}, farNumbers...) {
		for i := range 4 {
			d := c
			*[]*int{&d.Head, &d.Tail, &d.Pages, &d.Bytes}[i] = n
			l.wantAll(fmt.Sprint(d), d, api.ErrChain)
		}
	}
	for _, d := range []api.Chain{{Head: 3, Tail: 3, Pages: 5, Bytes: 700}, {Head: 3, Tail: 4, Pages: 5, Bytes: 248}, {Head: 3, Tail: 5, Pages: 2, Bytes: 700}, {Head: 3, Tail: 5, Pages: 5}, {Bytes: 1}, {Pages: 1}, {Head: 3}, {Tail: 3}} {
		l.wantAll(fmt.Sprint(d), d, api.ErrChain)
	}
	l.wantAll("nothing was changed", c, api.OK)
}

// P17.2, P17.3: what the last page says of a next one counts for nothing; for a chain with one page more it counts.
func TestWhatTheLastPageSays(t *testing.T) {
	for _, next := range []int{0, 1, 2, 3, 7, 9, 20, 65535} {
		l, c := five(t)
		l.put(7, 0, byte(next>>8), byte(next))
		l.wantAll(fmt.Sprint("the last one says ", next), c, api.OK)
	}
	l, c := five(t)
	l.put(7, 0, 0, 8)
	c.Pages = 6
	l.wantAll("it leads on", c, api.OK)
}

// P17.3: a page that was made a map by a commit is no chain's any more.
func TestMapsAreNoChains(t *testing.T) {
	l, c := five(t)
	pages, _ := chain.Pages(l.p, c)
	wantErr(t, "Drop", l.drop(c), api.OK)
	l.commit()
	if !slices.Equal(l.p.Maps(), pages[:1]) {
		t.Fatal("the map is", l.p.Maps())
	}
	l.wantAll("its head is a map", c, api.ErrChain)
	one := api.Chain{Head: 3, Tail: 3, Pages: 1, Bytes: 100}
	l.wantAll("it is a map", one, api.ErrChain)
}

// drawnLead lays pages by hand that lead here and there, with any next page, off and first; the chains that are asked of it are any, too.
func (l *lab) drawnLead(r *draws) api.Chain {
	l.t.Helper()
	n := len(look(l.t, l.p).page)
	for page := range n {
		if l.p.Mine(page) && r.below(3) > 0 {
			next := r.below(n + 1)
			if r.below(2) == 0 {
				next = page + 1
			}
			off := []int{0, 1, 100, 247, 248, 249, 300, 65535}[r.below(8)]
			l.put(page, 0, byte(next>>8), byte(next), byte(off>>8), byte(off), byte(r.below(2)), 0, 0, byte(r.below(20)))
		}
	}
	c := api.Chain{Head: r.below(n + 1), Pages: r.below(6), Bytes: r.below(1300)}
	c.Tail = c.Head
	for range min(plainLeast(c.Bytes)-1, 9) {
		if raw, e := l.p.Raw(c.Tail); e == api.OK {
			c.Tail = nextOf(raw)
		}
	}
	return c
}

// P17.2, P17.3: pages that were drawn by hand: each call is as the plain one.
func TestDrawnPages(t *testing.T) {
	right := 0
	for seed := range 40 {
		r := draws(seed)
		l := begun(t, 8+r.below(14))
		l.what = fmt.Sprint("seed ", seed)
		for n := range 60 {
			if n%20 == 0 {
				l.leave(r.below(6))
			}
			c := l.drawnLead(&r)
			if l.reads(c) == api.OK {
				right++
			}
			c, e := l.append(c, r.bytes(r.below(300)), mark(c.Bytes, uint32(r.below(20))))
			if e == api.OK && r.below(8) == 0 {
				l.drop(c)
			}
		}
	}
	if right < 100 {
		t.Error("only", right, "chains lead on")
	}
}

// Whatever stands on pages, and whatever chain is asked for: as the plain one.
func FuzzPages(f *testing.F) {
	f.Add([]byte{0, 4, 0, 1, 0, 0, 0, 5}, []byte{0, 5, 0, 1, 0, 0, 0, 6}, []byte{0, 0, 0, 1, 0, 0, 0, 7}, uint8(3), uint8(5), uint8(3), uint16(700), []byte("more"))
	f.Add([]byte{0, 4}, []byte{0, 3, 255, 255}, []byte{9, 9}, uint8(4), uint8(3), uint8(2), uint16(300), []byte{})
	f.Fuzz(func(t *testing.T, first, second, third []byte, head, tail, pages uint8, count uint16, data []byte) {
		l := begun(t, 12)
		for _, raw := range [][]byte{first, second, third} {
			l.p.NewRaw(raw[:min(len(raw), 256)])
		}
		c := api.Chain{Head: int(head), Tail: int(tail), Pages: int(pages), Bytes: int(count)}
		for _, c := range []api.Chain{c, {Head: 3, Tail: 4, Pages: 3, Bytes: 249 + int(count)%248}} {
			l.reads(c)
			d, e := l.append(c, data, mark(c.Bytes+len(data)/2, uint32(head)))
			if e == api.OK {
				l.reads(c)
				l.reads(d)
			}
			l.drop(d)
		}
	})
}
