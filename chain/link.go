package chain

import (
	"slices"

	"incipit/api"
	"incipit/pack"
)

// link is one of a chain's pages.
type link struct {
	page  int
	next  int
	off   int    // 1 and the place on the page that its mark says
	first uint32 // the mark's document
	bears []byte // ChainRoom bytes
}

// readLink answers the link that a raw page's bytes are.
func readLink(page int, raw []byte) link {
	r := pack.Read(raw)
	return link{page: page, next: int(r.U16()), off: int(r.U16()), first: r.U32(), bears: r.Raw(api.ChainRoom)}
}

// bytes answers the raw page's bytes.
func (l link) bytes() []byte {
	ahead := pack.U32(pack.U16(pack.U16(nil, uint16(l.next)), uint16(l.off)), l.first)
	return append(ahead, l.bears...)
}

// marked answers whether the page has a mark ahead of that place on it.
func (l link) marked(end int) bool {
	return l.off >= 1 && l.off <= api.ChainRoom && l.off-1 < end
}

// extra is bytes that come behind those of a chain, and their marks.
type extra struct {
	at    int // the place in the chain at which the bytes begin
	data  []byte
	marks []api.Mark
}

// end answers the place behind the bytes.
func (x extra) end() int { return x.at + len(x.data) }

// mayBe answers whether the marks rise, and are among the bytes.
func (x extra) mayBe() bool {
	from := x.at
	for _, m := range x.marks {
		if m.At < from || m.At >= x.end() {
			return false
		}
		from = m.At + 1
	}
	return true
}

// put lays those of the bytes on a page that stand there: it bears the chain's bytes from begin on. A page without one of them it leaves as it is.
func (x extra) put(l *link, begin int) {
	if begin+api.ChainRoom <= x.at || begin >= x.end() {
		return
	}
	place := max(0, x.at-begin) // what stands ahead of it on the page was there already
	clear(l.bears[place:])
	copy(l.bears[place:], x.data[begin+place-x.at:])
	if !l.marked(place) {
		l.off, l.first = x.mark(begin)
	}
}

// mark answers the first mark on the page that bears the chain's bytes from begin on, as the page says it; noughts, if there is none.
func (x extra) mark(begin int) (int, uint32) {
	i, _ := slices.BinarySearchFunc(x.marks, begin, func(m api.Mark, at int) int { return m.At - at })
	if i == len(x.marks) || x.marks[i].At >= begin+api.ChainRoom {
		return 0, 0
	}
	return x.marks[i].At - begin + 1, x.marks[i].Doc
}
