package pager_test

import (
	"bytes"
	"encoding/binary"
	"hash/crc32"
	"math"
	"slices"

	"incipit/api"
)

// The chapter's own words, done by hand: what the package is held against. The forms of frames, heads and free maps are written out here, too.

// What a page is; taken ones are told apart by whether they are of this transaction.
const (
	isFree = iota
	isOld
	isMine
	isHeld
)

// plain says of each page what it is and what it bears, and what it was when the transaction began.
type plain struct {
	epoch uint64
	maps  []int
	user  []byte
	page  []int
	begun []int
	bears [][]byte
	puts  [][][]byte // of each page that the last commit left: what was put there in place since then
}

// plainSum is CRC-32C, by the library.
func plainSum(b []byte) uint32 { return crc32.Checksum(b, crc32.MakeTable(crc32.Castagnoli)) }

// plainFrame is a page in its frame.
func plainFrame(kind, page int, epoch uint64, data []byte) []byte {
	b := make([]byte, 256)
	b[4] = byte(kind)
	binary.BigEndian.PutUint16(b[6:], uint16(page))
	binary.BigEndian.PutUint64(b[8:], epoch)
	copy(b[16:], data)
	binary.BigEndian.PutUint32(b, plainSum(b[4:]))
	return b
}

// plainWant is what the frame on a page bears; the error is the first that chapter 4 names.
func plainWant(b []byte, page, kind int) ([]byte, api.Errno) {
	switch {
	case binary.BigEndian.Uint32(b) != plainSum(b[4:]):
		return nil, api.ErrSum
	case b[4] < 1 || b[4] > 4 || b[5] != 0:
		return nil, api.ErrKind
	case int(binary.BigEndian.Uint16(b[6:])) != page:
		return nil, api.ErrPage
	case int(b[4]) != kind:
		return nil, api.ErrKind
	}
	return bytes.Clone(b[16:]), api.OK
}

// plainHead is a head's page.
func plainHead(epoch uint64, pages int, maps []int, user []byte) []byte {
	data := []byte{byte(pages >> 8), byte(pages), byte(len(maps))}
	for _, m := range maps {
		data = append(data, byte(m>>8), byte(m))
	}
	data = append(data, byte(len(user)))
	return plainFrame(api.KindHead, int(epoch%2), epoch, append(data, user...))
}

// plainNeed is how many maps so many pages need.
func plainNeed(pages int) int {
	if pages <= 1024 {
		return 1
	}
	return 2
}

// plainMap is what the i-th page of a free map bears.
func plainMap(taken []int, i int) []byte {
	b := make([]byte, 240)
	for _, p := range taken {
		if p/1024 == i {
			b[p%1024/8] |= 1 << (p % 8)
		}
	}
	return b
}

// plainFormat is a pager of so many pages, as Format leaves it.
func plainFormat(pages int) *plain {
	m := &plain{epoch: 1, page: make([]int, pages), bears: make([][]byte, pages), puts: make([][][]byte, pages)}
	for i := range plainNeed(pages) {
		m.maps = append(m.maps, 2+i)
	}
	for p := range 2 + len(m.maps) {
		m.page[p] = isOld
	}
	m.begun = slices.Clone(m.page)
	m.layMaps()
	return m
}

// layMaps gives the maps what they bear, in the epoch of now.
func (m *plain) layMaps() {
	for i, p := range m.maps {
		m.bears[p] = plainFrame(api.KindMap, p, m.epoch, plainMap(m.taken(), i))
	}
}

// headAt is the head that stands on a page of an image, if it counts there.
func headAt(image []byte, page int) (*plain, bool) {
	b := image[page*256:][:256]
	data, e := plainWant(b, page, api.KindHead)
	if e != api.OK {
		return nil, false
	}
	pages := len(image) / 256
	m := &plain{epoch: binary.BigEndian.Uint64(b[8:]), page: make([]int, pages), bears: make([][]byte, pages), puts: make([][][]byte, pages)}
	n := int(data[2])
	if n != plainNeed(pages) || int(data[0])*256+int(data[1]) != pages || m.epoch%2 != uint64(page) {
		return nil, false
	}
	for i := range n {
		p := int(data[3+2*i])*256 + int(data[4+2*i])
		if p < 2 || p >= pages || slices.Contains(m.maps, p) {
			return nil, false
		}
		m.maps = append(m.maps, p)
	}
	long := int(data[3+2*n])
	if long > 32 {
		return nil, false
	}
	m.user = bytes.Clone(data[4+2*n:][:long])
	return m, bytes.Equal(b, plainHead(m.epoch, pages, m.maps, m.user))
}

// plainOpen is the pager of an image, as Open tells it.
func plainOpen(image []byte) (*plain, api.Errno) {
	m, is := headAt(image, 0)
	if other, counts := headAt(image, 1); counts && (!is || other.epoch > m.epoch) {
		m, is = other, true
	}
	if !is {
		return nil, api.ErrHead
	}
	var maps [][]byte
	for _, p := range m.maps {
		data, e := plainWant(image[p*256:][:256], p, api.KindMap)
		if e != api.OK {
			return nil, e
		}
		maps = append(maps, data)
	}
	if !m.takeBits(maps) {
		return nil, api.ErrMap
	}
	for _, p := range append([]int{0, 1}, m.maps...) {
		if m.page[p] != isOld {
			return nil, api.ErrMap
		}
	}
	for p := range m.bears {
		m.bears[p] = bytes.Clone(image[p*256:][:256])
	}
	m.begun = slices.Clone(m.page)
	return m, api.OK
}

// takeBits makes those pages taken whose bits are 1; false, if a bit is that belongs to no page.
func (m *plain) takeBits(maps [][]byte) bool {
	for i, b := range maps {
		for bit := range 240 * 8 {
			if b[bit/8]>>(bit%8)&1 == 0 {
				continue
			}
			if bit >= 1024 || i*1024+bit >= len(m.page) {
				return false
			}
			m.page[i*1024+bit] = isOld
		}
	}
	return true
}

// those are the pages that are one of what is asked for.
func (m *plain) those(what ...int) []int {
	var l []int
	for p, is := range m.page {
		if slices.Contains(what, is) {
			l = append(l, p)
		}
	}
	return l
}

func (m *plain) taken() []int { return m.those(isOld, isMine) }

func (m *plain) mine(p int) bool { return p >= 0 && p < len(m.page) && m.page[p] == isMine }

// noPage is the error of a page that no call has to do with.
func (m *plain) noPage(p int) api.Errno {
	if p < 2 || p >= len(m.page) {
		return api.ErrArg
	}
	return api.OK
}

// notTaken is that, and of pages that are not taken.
func (m *plain) notTaken(p int) api.Errno {
	if e := m.noPage(p); e != api.OK {
		return e
	}
	if m.page[p] != isOld && m.page[p] != isMine {
		return api.ErrNone
	}
	return api.OK
}

// noFrame is frame.Check's error.
func noFrame(kind int, data []byte) api.Errno {
	switch {
	case kind < 1 || kind > 4:
		return api.ErrKind
	case len(data) > 240:
		return api.ErrLong
	}
	return api.OK
}

// take takes the lowest free page.
func (m *plain) take() (int, api.Errno) {
	p := slices.Index(m.page, isFree)
	if p < 0 {
		return 0, api.ErrFull
	}
	m.page[p] = isMine
	return p, api.OK
}

func (m *plain) new(kind int, data []byte) (int, api.Errno) {
	if e := noFrame(kind, data); e != api.OK {
		return 0, e
	}
	p, e := m.take()
	if e == api.OK {
		m.bears[p] = plainFrame(kind, p, m.epoch+1, data)
	}
	return p, e
}

func (m *plain) put(p, kind int, data []byte) api.Errno {
	if e := m.notTaken(p); e != api.OK {
		return e
	}
	if m.page[p] != isMine {
		return api.ErrShadow
	}
	if e := noFrame(kind, data); e != api.OK {
		return e
	}
	m.bears[p] = plainFrame(kind, p, m.epoch+1, data)
	return api.OK
}

func (m *plain) raw(p int) ([]byte, api.Errno) {
	if e := m.noPage(p); e != api.OK {
		return nil, e
	}
	if m.page[p] == isFree {
		return nil, api.ErrNone
	}
	return m.bears[p], api.OK
}

func (m *plain) read(p, kind int) ([]byte, api.Errno) {
	b, e := m.raw(p)
	if e != api.OK {
		return nil, e
	}
	return plainWant(b, p, kind)
}

// whole is b, and noughts behind it.
func whole(b []byte) []byte { return append(bytes.Clone(b), make([]byte, 256-len(b))...) }

func (m *plain) newRaw(b []byte) (int, api.Errno) {
	if len(b) > 256 {
		return 0, api.ErrLong
	}
	p, e := m.take()
	if e == api.OK {
		m.bears[p] = whole(b)
	}
	return p, e
}

func (m *plain) putRaw(p int, b []byte) api.Errno {
	if e := m.notTaken(p); e != api.OK {
		return e
	}
	switch {
	case slices.Contains(m.maps, p):
		return api.ErrShadow
	case len(b) > 256:
		return api.ErrLong
	}
	m.bears[p] = whole(b)
	if m.page[p] == isOld {
		m.puts[p] = append(m.puts[p], m.bears[p])
	}
	return api.OK
}

func (m *plain) free(p int) api.Errno {
	if e := m.notTaken(p); e != api.OK {
		return e
	}
	switch {
	case slices.Contains(m.maps, p):
		return api.ErrShadow
	case m.page[p] == isMine:
		m.page[p] = isFree
	default:
		m.page[p] = isHeld
	}
	return api.OK
}

func (m *plain) commit(user []byte) api.Errno {
	if len(user) > 32 {
		return api.ErrLong
	}
	if len(m.those(isFree)) < len(m.maps) {
		m.abort()
		return api.ErrFull
	}
	old := m.maps
	m.maps = nil
	for range old {
		p, _ := m.take()
		m.maps = append(m.maps, p)
	}
	for _, p := range old {
		m.page[p] = isHeld
	}
	m.epoch++
	m.user = bytes.Clone(user)
	m.layMaps()
	for p, is := range m.page {
		switch is {
		case isMine:
			m.page[p] = isOld
		case isHeld:
			m.page[p] = isFree
		}
	}
	m.begun = slices.Clone(m.page)
	m.puts = make([][][]byte, len(m.page))
	return api.OK
}

func (m *plain) abort() { m.page = slices.Clone(m.begun) }

func (m *plain) clone() *plain {
	return &plain{m.epoch, slices.Clone(m.maps), bytes.Clone(m.user), slices.Clone(m.page), slices.Clone(m.begun), slices.Clone(m.bears), slices.Clone(m.puts)}
}

// draws is a rule by which lives are drawn, always the same of a seed.
type draws uint32

// below draws a number from 0 on, below n.
func (r *draws) below(n int) int {
	*r = *r*1664525 + 1013904223
	return int(uint32(*r)>>8) % n
}

// bytes draws so many bytes.
func (r *draws) bytes(n int) []byte {
	b := make([]byte, n)
	for i := range b {
		b[i] = byte(r.below(256))
	}
	return b
}

// some draws fewer bytes than n, often none or the most.
func (r *draws) some(n int) []byte {
	switch r.below(4) {
	case 0:
		return nil
	case 1:
		return r.bytes(n - 1)
	}
	return r.bytes(r.below(n))
}

// picks draws what a crash makes of so many writes that wait.
func (r *draws) picks(n int) []uint8 {
	l := make([]uint8, n)
	for i := range l {
		l[i] = uint8(r.below(5))
	}
	return l
}

// farPages are pages that no pager has to do with, whatever its size.
var farPages = []int{math.MinInt, math.MinInt + 2, -1 << 40, -1<<32 + 3, -1 << 31, -1024, -256, -3, -2, -1, 0, 1, api.MaxPages, api.MaxPages + 1, api.MaxPages + 3, 65536 + 3, 1 << 31, 1<<32 + 3, 1<<40 + 3, math.MaxInt - 1, math.MaxInt}

// noKinds are kinds of no frame; the low byte of some is one of a frame.
var noKinds = []int{math.MinInt, -1 << 32, -255, -1, 0, 5, 6, 255, 256, 257, 258, 1<<32 + 3, math.MaxInt}

// noSizes are sizes that a cache may not have.
var noSizes = []int{math.MinInt, -1 << 32, -2, -1, 0, 1, 65, 66, 256 + 2, 1<<32 + 2, math.MaxInt}
