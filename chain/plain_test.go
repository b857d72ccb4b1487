package chain_test

import (
	"bytes"
	"fmt"
	"slices"
	"testing"

	"incipit/api"
	"incipit/chain"
	"incipit/disk"
	"incipit/pager"
)

// The chapter's own words, done by hand on what a pager tells of its pages: what the package is held against. Of the package nothing is called here but by a lab.

// sheet is what a pager tells of a page; it is held, if it is neither free nor taken.
type sheet struct {
	free, taken, mine bool
	raw               []byte // nothing, if the page may not be read
}

// world is what a pager tells of all its pages.
type world struct {
	page []sheet
	maps []int
}

// look asks a pager for all of it.
func look(t *testing.T, p *pager.Pager) world {
	t.Helper()
	w := world{maps: p.Maps(), page: make([]sheet, p.Pages())}
	for _, page := range p.Taken() {
		w.page[page].taken = true
	}
	for page := 2; page < p.Pages(); page++ {
		raw, e := p.Raw(page)
		if e != api.OK && e != api.ErrNone {
			t.Fatalf("Raw(%d) answers error %d", page, int(e))
		}
		w.page[page].raw, w.page[page].free, w.page[page].mine = raw, e == api.ErrNone, p.Mine(page)
	}
	return w
}

// differs tells where two worlds are not the same; "" if they are.
func (w world) differs(v world) string {
	if !slices.Equal(w.maps, v.maps) || len(w.page) != len(v.page) {
		return fmt.Sprintf("maps %v, %v, pages %d, %d", w.maps, v.maps, len(w.page), len(v.page))
	}
	for i, a := range w.page {
		b := v.page[i]
		if a.free != b.free || a.taken != b.taken || a.mine != b.mine || !bytes.Equal(a.raw, b.raw) {
			return fmt.Sprintf("page %d: %v and %v", i, a, b)
		}
	}
	return ""
}

// free is the pages that are free, rising.
func (w world) free() []int {
	var l []int
	for page, s := range w.page {
		if s.free {
			l = append(l, page)
		}
	}
	return l
}

// plainLeast is how many pages a chain's bytes need; not of numbers that are great.
func plainLeast(bytes int) int {
	n := 0
	for n*248 < bytes {
		n++
	}
	return n
}

// plainMayBe is whether a chain may be on so many pages.
func plainMayBe(c api.Chain, pages int) bool {
	if c.Head == 0 && c.Tail == 0 && c.Pages == 0 && c.Bytes == 0 {
		return true
	}
	if c.Head < 2 || c.Tail < 2 || c.Head >= pages || c.Tail >= pages || c.Bytes < 1 || c.Pages > pages {
		return false
	}
	one := c.Bytes <= 248
	return (c.Pages >= pages || c.Pages >= plainLeast(min(c.Bytes, 248*pages+1))) && c.Bytes <= 248*pages && (c.Head == c.Tail) == one
}

// nextOf, offOf and firstOf are what a chain's page has ahead of its bytes.
func nextOf(raw []byte) int     { return int(raw[0])*256 + int(raw[1]) }
func offOf(raw []byte) int      { return int(raw[2])*256 + int(raw[3]) }
func firstOf(raw []byte) uint32 { return uint32(nextOf(raw[4:]))<<16 + uint32(nextOf(raw[6:])) }

// pages is a chain's pages, or the error that Read answers; with change the one that Append and Drop answer.
func (w world) pages(c api.Chain, change bool) ([]int, api.Errno) {
	if !plainMayBe(c, len(w.page)) {
		return nil, api.ErrChain
	}
	var l []int
	page := c.Head
	for range c.Pages {
		if page < 2 || page >= len(w.page) || w.page[page].free || slices.Contains(w.maps, page) || slices.Contains(l, page) || change && !w.page[page].taken {
			return nil, api.ErrChain
		}
		l = append(l, page)
		page = nextOf(w.page[page].raw)
	}
	if c.Pages > 0 && l[plainLeast(c.Bytes)-1] != c.Tail {
		return nil, api.ErrChain
	}
	return l, api.OK
}

// read is a chain's bytes.
func (w world) read(c api.Chain) ([]byte, api.Errno) {
	l, e := w.pages(c, false)
	if e != api.OK {
		return nil, e
	}
	var b []byte
	for i := range c.Bytes {
		b = append(b, w.page[l[i/248]].raw[8+i%248])
	}
	return b, api.OK
}

// marks is the marks of a chain's pages, in the order of these; of pages that are handed in.
func (w world) marks(l []int, bytes int) []api.Mark {
	var marks []api.Mark
	for i, page := range l {
		raw := w.page[page].raw
		if off := offOf(raw); off != 0 && off <= 248 && i*248+off-1 < bytes {
			marks = append(marks, api.Mark{At: i*248 + off - 1, Doc: firstOf(raw)})
		}
	}
	return marks
}

// seek is what Seek answers.
func (w world) seek(c api.Chain, doc uint32) (api.Mark, api.Errno) {
	l, e := w.pages(c, false)
	if e != api.OK {
		return api.Mark{}, e
	}
	marks := w.marks(l, c.Bytes)
	for i := len(marks) - 1; i >= 0; i-- {
		if marks[i].Doc <= doc {
			return marks[i], api.OK
		}
	}
	return api.Mark{}, api.OK
}

// plainMarked is whether marks are some of bytes from a place on, ahead of an end.
func plainMarked(marks []api.Mark, from, end int) bool {
	for i, m := range marks {
		if m.At < from || m.At >= end || i > 0 && m.At <= marks[i-1].At {
			return false
		}
	}
	return true
}

// extend is what Append does, and answers; New, with the empty chain, and the pages that are wished.
func (w world) extend(c api.Chain, wish int, data []byte, marks []api.Mark) (api.Chain, api.Errno) {
	l, e := w.pages(c, true)
	if e != api.OK {
		return api.Chain{}, e
	}
	end := c.Bytes + len(data)
	if !plainMarked(marks, c.Bytes, end) {
		return api.Chain{}, api.ErrArg
	}
	if len(data) == 0 {
		return c, api.OK
	}
	need, free := plainLeast(end), w.free()
	if c.Pages < need {
		lack := need - c.Pages
		switch {
		case wish >= lack && wish <= len(free):
			l = append(l, free[:wish]...)
		case lack <= len(free):
			l = append(l, free[:lack]...)
		default:
			return api.Chain{}, api.ErrFull
		}
	}
	for i := c.Pages; i < len(l); i++ {
		w.page[l[i]] = sheet{taken: true, mine: true, raw: make([]byte, 256)}
	}
	for i, page := range l {
		w.lay(l, i, c, data, marks)
		if next := append(l, 0)[i+1]; i >= c.Pages-1 && next != 0 {
			w.page[page].raw[0], w.page[page].raw[1] = byte(next/256), byte(next%256)
		}
	}
	return api.Chain{Head: l[0], Tail: l[need-1], Pages: len(l), Bytes: end}, api.OK
}

// lay lays data on the i-th page of a chain, if a byte of them stands there.
func (w world) lay(l []int, i int, c api.Chain, data []byte, marks []api.Mark) {
	old := w.page[l[i]].raw
	raw := make([]byte, 256)
	bears := false
	for place := range 248 {
		switch at := i*248 + place; {
		case at < c.Bytes:
			raw[8+place] = old[8+place]
		case at < c.Bytes+len(data):
			raw[8+place], bears = data[at-c.Bytes], true
		}
	}
	if !bears {
		return
	}
	next := append(l, 0)[i+1]
	raw[0], raw[1] = byte(next/256), byte(next%256)
	if off := offOf(old); off >= 1 && off <= 248 && i*248+off-1 < c.Bytes {
		copy(raw[2:8], old[2:8])
	} else if m := slices.IndexFunc(marks, func(m api.Mark) bool { return m.At/248 == i }); m >= 0 {
		doc := marks[m].Doc
		copy(raw[2:8], []byte{0, byte(marks[m].At%248 + 1), byte(doc >> 24), byte(doc >> 16), byte(doc >> 8), byte(doc)})
	}
	w.page[l[i]].raw = raw
}

// drop is what Drop does, and answers.
func (w world) drop(c api.Chain) api.Errno {
	l, e := w.pages(c, true)
	for _, page := range l {
		s := &w.page[page]
		s.taken = false
		if s.mine {
			*s = sheet{free: true}
		}
	}
	return e
}

// lab is a pager on which chains live, each call beside its plain one.
type lab struct {
	t    *testing.T
	what string
	d    *disk.Disk
	p    *pager.Pager
}

// begun is a lab on a new device of so many pages; on 20 the first free one is 3.
func begun(t *testing.T, pages int) *lab {
	t.Helper()
	d, e := disk.New(pages)
	wantErr(t, "disk.New", e, api.OK)
	p, e := pager.Format(d, 2+pages%5)
	wantErr(t, "Format", e, api.OK)
	return &lab{t: t, what: fmt.Sprint(pages, " pages"), d: d, p: p}
}

func wantErr(t *testing.T, what string, got, want api.Errno) {
	t.Helper()
	if got != want {
		t.Fatalf("%s answers error %d, not %d", what, int(got), int(want))
	}
}

// like asks whether all pages are as in a world, and an answer is another.
func (l *lab) like(call string, w world, got api.Chain, e api.Errno, want api.Chain, f api.Errno) {
	l.t.Helper()
	if got != want || e != f {
		l.t.Fatalf("%s: %s answers %v, error %d, not %v, error %d", l.what, call, got, int(e), want, int(f))
	}
	if s := w.differs(look(l.t, l.p)); s != "" {
		l.t.Fatalf("%s: %s, as it should be, and as it is: %s", l.what, call, s)
	}
}

// make makes a chain.
func (l *lab) make(pages int, data []byte, marks ...api.Mark) (api.Chain, api.Errno) {
	l.t.Helper()
	w := look(l.t, l.p)
	got, e := chain.New(l.p, pages, data, marks...)
	want, f := w.extend(api.Chain{}, pages, data, marks)
	l.like(fmt.Sprintf("New(%d, %d bytes, %v)", pages, len(data), marks), w, got, e, want, f)
	return got, e
}

// append puts data behind a chain.
func (l *lab) append(c api.Chain, data []byte, marks ...api.Mark) (api.Chain, api.Errno) {
	l.t.Helper()
	w := look(l.t, l.p)
	got, e := chain.Append(l.p, c, data, marks...)
	want, f := w.extend(c, c.Pages, data, marks)
	l.like(fmt.Sprintf("Append(%v, %d bytes, %v)", c, len(data), marks), w, got, e, want, f)
	return got, e
}

// drop drops a chain.
func (l *lab) drop(c api.Chain) api.Errno {
	l.t.Helper()
	w := look(l.t, l.p)
	e := chain.Drop(l.p, c)
	f := w.drop(c)
	l.like(fmt.Sprintf("Drop(%v)", c), w, c, e, c, f)
	return e
}

// reads reads a chain, each way; the error that all answered.
func (l *lab) reads(c api.Chain) api.Errno {
	l.t.Helper()
	w := look(l.t, l.p)
	b, e := chain.Read(l.p, c)
	want, f := w.read(c)
	if e != f || !bytes.Equal(b, want) || e != api.OK && b != nil {
		l.t.Fatalf("%s: Read(%v) answers %v, error %d, not %v, error %d", l.what, c, b, int(e), want, int(f))
	}
	pages, e := chain.Pages(l.p, c)
	if wantPages, f := w.pages(c, false); e != f || !slices.Equal(pages, wantPages) || e != api.OK && pages != nil {
		l.t.Fatalf("%s: Pages(%v) answers %v, error %d, not %v, error %d", l.what, c, pages, int(e), wantPages, int(f))
	}
	for _, doc := range w.docs(pages) {
		m, e := chain.Seek(l.p, c, doc)
		if want, f := w.seek(c, doc); m != want || e != f {
			l.t.Fatalf("%s: Seek(%v, %d) answers %v, error %d, not %v, error %d", l.what, c, doc, m, int(e), want, int(f))
		}
	}
	l.like("Read, Pages and Seek", w, c, e, c, f)
	return e
}

// docs is documents to be looked for: the least and the greatest, those that pages say, and those beside them.
func (w world) docs(pages []int) []uint32 {
	l := []uint32{0, 1, 1<<32 - 1}
	for _, page := range pages {
		doc := firstOf(w.page[page].raw)
		l = append(l, doc-1, doc, doc+1)
	}
	slices.Sort(l)
	return slices.Compact(l)
}

// made makes a chain of so many pages, and of bytes of some kind; it must be.
func (l *lab) made(pages, count int, marks ...api.Mark) api.Chain {
	l.t.Helper()
	c, e := l.make(pages, some(count), marks...)
	wantErr(l.t, l.what+": New", e, api.OK)
	return c
}

// longer puts so many bytes behind a chain's; it must be.
func (l *lab) longer(c api.Chain, count int, marks ...api.Mark) api.Chain {
	l.t.Helper()
	c, e := l.append(c, some(count + 7)[7:], marks...)
	wantErr(l.t, l.what+": Append", e, api.OK)
	return c
}

// commit and abort end a transaction.
func (l *lab) commit() {
	l.t.Helper()
	wantErr(l.t, l.what+": Commit", l.p.Commit(nil), api.OK)
}

func (l *lab) abort() {
	l.t.Helper()
	wantErr(l.t, l.what+": Abort", l.p.Abort(), api.OK)
}

// leave takes pages till so many are free.
func (l *lab) leave(free int) {
	l.t.Helper()
	for l.p.Avail() > free {
		_, e := l.p.NewRaw([]byte("another's"))
		wantErr(l.t, "NewRaw", e, api.OK)
	}
}

// put lays bytes by hand on a page, from a place on.
func (l *lab) put(page, at int, b ...byte) {
	l.t.Helper()
	raw, e := l.p.Raw(page)
	wantErr(l.t, "Raw", e, api.OK)
	copy(raw[at:], b)
	wantErr(l.t, "PutRaw", l.p.PutRaw(page, raw), api.OK)
}

// some is so many bytes, none of them a nought.
func some(n int) []byte {
	b := make([]byte, n)
	for i := range b {
		b[i] = byte(1 + (i+i/248)%255)
	}
	return b
}

// mark is a mark.
func mark(at int, doc uint32) api.Mark { return api.Mark{At: at, Doc: doc} }

// draws is a rule by which lives are drawn, always the same of a seed.
type draws uint32

// below draws a number from 0 on, below n.
func (r *draws) below(n int) int {
	*r = *r*1664525 + 1013904223
	return int(uint32(*r)>>8) % n
}

// bytes draws so many bytes.
func (r *draws) bytes(n int) []byte {
	b := make([]byte, n)
	for i := range b {
		b[i] = byte(r.below(256))
	}
	return b
}
