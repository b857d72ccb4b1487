package tree_test

import (
	"bytes"
	"encoding/binary"
	"fmt"
	"hash/crc32"

	"incipit/api"
	"incipit/pager"
)

// The chapter's own words, done by hand: what the package is held against. The forms of frames and nodes are written out here, too.

// plainFrame is a page in its frame.
func plainFrame(kind, page int, data []byte) []byte {
	b := make([]byte, 256)
	b[4] = byte(kind)
	binary.BigEndian.PutUint16(b[6:], uint16(page))
	binary.BigEndian.PutUint64(b[8:], 1)
	copy(b[16:], data)
	binary.BigEndian.PutUint32(b, crc32.Checksum(b[4:], crc32.MakeTable(crc32.Castagnoli)))
	return b
}

// plainBears is what a page bears, if its frame is whole, belongs there, and is of that kind.
func plainBears(b []byte, page, kind int) ([]byte, bool) {
	sum := crc32.Checksum(b[4:], crc32.MakeTable(crc32.Castagnoli))
	is := binary.BigEndian.Uint32(b) == sum && int(b[4]) == kind && b[5] == 0 && int(binary.BigEndian.Uint16(b[6:])) == page
	return b[16:], is
}

// plainBytes is what the page of a node bears.
func plainBytes(n api.Node) []byte {
	if n.Leaf {
		b := []byte{byte(len(n.Pairs))}
		for _, p := range n.Pairs {
			b = append(append(b, byte(len(p.Key))), p.Key...)
			b = append(append(b, byte(len(p.Val))), p.Val...)
		}
		return b
	}
	b := []byte{byte(len(n.Keys)), byte(n.Kids[0] >> 8), byte(n.Kids[0])}
	for i, key := range n.Keys {
		b = append(append(b, byte(len(key))), key...)
		b = append(b, byte(n.Kids[i+1]>>8), byte(n.Kids[i+1]))
	}
	return b
}

// taker takes bytes one behind the other; where fewer are left it has come to nothing.
type taker struct {
	b   []byte
	out bool
}

func (t *taker) take(n int) []byte {
	if t.out || n > len(t.b) {
		t.out = true
		return make([]byte, n)
	}
	l := t.b[:n:n]
	t.b = t.b[n:]
	return l
}

func (t *taker) number() int { return int(t.take(1)[0]) }

func (t *taker) kid() int { return t.number()<<8 + t.number() }

// plainNode is the node whose bytes these are, how many of them count, and whether there is one.
func plainNode(leaf bool, b []byte) (api.Node, int, bool) {
	t := &taker{b: b}
	n := api.Node{Leaf: leaf}
	count := t.number()
	if leaf {
		n.Pairs = make([]api.Pair, 0, count)
	} else {
		n.Kids = append(n.Kids, t.kid())
	}
	for range count {
		key := t.take(t.number())
		if leaf {
			n.Pairs = append(n.Pairs, api.Pair{Key: key, Val: t.take(t.number())})
		} else {
			n.Keys, n.Kids = append(n.Keys, key), append(n.Kids, t.kid())
		}
	}
	size := len(b) - len(t.b)
	good := !t.out && len(b) == 240 && len(bytes.Trim(t.b, "\x00")) == 0 && (leaf || count > 0)
	for _, p := range n.Pairs {
		good = good && len(p.Val) <= 24
	}
	for _, kid := range n.Kids {
		good = good && kid >= 2 && kid < 2048
	}
	keys := keysOf(n)
	for i, key := range keys {
		good = good && len(key) >= 1 && len(key) <= 25 && (i == 0 || string(keys[i-1]) < string(key))
	}
	return n, size, good
}

// keysOf is the keys of a leaf's pairs, or of an inner node.
func keysOf(n api.Node) [][]byte {
	if !n.Leaf {
		return n.Keys
	}
	l := make([][]byte, len(n.Pairs))
	for i, p := range n.Pairs {
		l[i] = p.Key
	}
	return l
}

// sameNode holds nodes against each other, field by field.
func sameNode(a, b api.Node) bool {
	return a.Leaf == b.Leaf && fmt.Sprintf("%q", a.Pairs) == fmt.Sprintf("%q", b.Pairs) && fmt.Sprintf("%q", a.Keys) == fmt.Sprintf("%q", b.Keys) && fmt.Sprint(a.Kids) == fmt.Sprint(b.Kids)
}

// reading is a tree that is read by hand: its pages, nodes and pairs as they are come to, each node ahead of its children, and the first thing that is not right.
type reading struct {
	p      *pager.Pager
	height int
	small  bool // nodes may have fewer than MinFill bytes
	stood  map[int]bool
	pages  []int
	nodes  []api.Node
	pairs  []api.Pair
	wrong  string
}

// readTree reads the tree at that root, page by page.
func readTree(p *pager.Pager, root, height int) *reading {
	r := &reading{p: p, height: height, stood: map[int]bool{}}
	switch {
	case height == 0 && root == 0:
	case height < 1 || height > 8:
		r.wrong = fmt.Sprintf("the root %d, the height %d", root, height)
	default:
		r.from(root, 1, nil, nil)
	}
	return r
}

// from reads what stands at a page and below it: keys from low on, and ahead of high, if there is one.
func (r *reading) from(page, depth int, low, high []byte) {
	if r.wrong != "" {
		return
	}
	n, size := r.read(page, depth)
	switch {
	case r.wrong != "":
		return
	case r.stood[page]:
		r.wrong = fmt.Sprintf("page %d stands there twice", page)
		return
	case depth > 1 && size < 60 && !r.small:
		r.wrong = fmt.Sprintf("page %d has %d bytes", page, size)
		return
	case depth == 1 && n.Leaf && len(n.Pairs) == 0:
		r.wrong = "the root is a leaf without pairs"
		return
	}
	for _, key := range keysOf(n) {
		if string(key) < string(low) || high != nil && string(key) >= string(high) {
			r.wrong = fmt.Sprintf("the key %q on page %d stands not from %q on, ahead of %q", key, page, low, high)
			return
		}
	}
	r.stood[page] = true
	r.pages, r.nodes, r.pairs = append(r.pages, page), append(r.nodes, n), append(r.pairs, n.Pairs...)
	for i, kid := range n.Kids {
		from, to := low, high
		if i > 0 {
			from = n.Keys[i-1]
		}
		if i < len(n.Keys) {
			to = n.Keys[i]
		}
		r.from(kid, depth+1, from, to)
	}
}

// read takes the node off a page, and how many bytes it has.
func (r *reading) read(page, depth int) (api.Node, int) {
	b, e := r.p.Raw(page)
	if e != api.OK {
		r.wrong = fmt.Sprintf("page %d: error %d", page, int(e))
		return api.Node{}, 0
	}
	kind := 4
	if depth == r.height {
		kind = 3
	}
	bears, is := plainBears(b, page, kind)
	if !is {
		r.wrong = fmt.Sprintf("page %d is not framed as kind %d", page, kind)
		return api.Node{}, 0
	}
	n, size, good := plainNode(kind == 3, bears)
	if !good {
		r.wrong = fmt.Sprintf("page %d bears no node: %v", page, bears)
	}
	return n, size
}

// draws is a rule by which lives are drawn, always the same of a seed.
type draws uint32

// below draws a number from 0 on, below n.
func (r *draws) below(n int) int {
	*r = *r*1664525 + 1013904223
	return int(uint32(*r)>>8) % n
}

// text draws bytes that are often another text's beginning.
func (r *draws) text(least, most int) []byte {
	b := make([]byte, least+r.below(most-least+1))
	for i := range b {
		b[i] = []byte{0, 1, 'a', 'b', 'c', 200, 255}[r.below(7)]
	}
	return b
}

// order draws the numbers from 0 on, below n, in some order.
func (r *draws) order(n int) []int {
	l := make([]int, n)
	for i := range l {
		j := r.below(i + 1)
		l[i], l[j] = l[j], i
	}
	return l
}
