package cursor_test

import (
	"bytes"
	"encoding/binary"
	"fmt"
	"hash/crc32"
	"iter"
	"slices"
	"testing"

	"incipit/api"
	"incipit/pager"
	"incipit/tree"
)

// The chapter's own words, done by hand: what the package is held against. The forms of frames and nodes are written out here, too.

// plainFrame is a page in its frame.
func plainFrame(kind, page int, data []byte) []byte {
	b := make([]byte, 256)
	b[4] = byte(kind)
	binary.BigEndian.PutUint16(b[6:], uint16(page))
	binary.BigEndian.PutUint64(b[8:], 1)
	copy(b[16:], data)
	binary.BigEndian.PutUint32(b, crc32.Checksum(b[4:], crc32.MakeTable(crc32.Castagnoli)))
	return b
}

// plainBytes is the bytes of a node.
func plainBytes(n api.Node) []byte {
	if n.Leaf {
		b := []byte{byte(len(n.Pairs))}
		for _, p := range n.Pairs {
			b = append(append(b, byte(len(p.Key))), p.Key...)
			b = append(append(b, byte(len(p.Val))), p.Val...)
		}
		return b
	}
	b := []byte{byte(len(n.Keys)), byte(n.Kids[0] >> 8), byte(n.Kids[0])}
	for i, key := range n.Keys {
		b = append(append(b, byte(len(key))), key...)
		b = append(b, byte(n.Kids[i+1]>>8), byte(n.Kids[i+1]))
	}
	return b
}

// keysOf is the keys of a leaf's pairs, or of an inner node.
func keysOf(n api.Node) [][]byte {
	if !n.Leaf {
		return n.Keys
	}
	var l [][]byte
	for _, p := range n.Pairs {
		l = append(l, p.Key)
	}
	return l
}

// spot is a node that is come to, where its keys may stand (high is "", where nothing ends them), and how many pairs were told ahead of it.
type spot struct {
	page, depth int
	node        api.Node
	low, high   string
	pairs       int
}

// reading is a tree that is gone through by hand, node by node: all that is come to, each node ahead of its children, the pairs of its leaves, and the first thing that is not right.
type reading struct {
	x     *tree.Tree
	spots []spot
	pairs []api.Pair
	wrong api.Errno
	why   string
}

// read goes through a tree.
func read(x *tree.Tree) *reading {
	r := &reading{x: x}
	if root, height := x.Root(); height > 0 {
		r.from(root, 1, "", "")
	}
	return r
}

// from reads what stands at a page, and below it, up to the first thing that is not right.
func (r *reading) from(page, depth int, low, high string) {
	if r.wrong != api.OK {
		return
	}
	n, e := r.x.Node(page, depth)
	if e != api.OK {
		r.wrong, r.why = e, fmt.Sprintf("page %d can't be read", page)
		return
	}
	r.why = r.whyNot(page, depth, n, low, high)
	if r.why != "" {
		r.wrong = api.ErrTree
		return
	}
	r.spots = append(r.spots, spot{page: page, depth: depth, node: n, low: low, high: high, pairs: len(r.pairs)})
	r.pairs = append(r.pairs, n.Pairs...)
	for i, kid := range n.Kids {
		from, to := low, high
		if i > 0 {
			from = string(n.Keys[i-1])
		}
		if i < len(n.Keys) {
			to = string(n.Keys[i])
		}
		r.from(kid, depth+1, from, to)
	}
}

// whyNot is why a node is not right there, or nothing.
func (r *reading) whyNot(page, depth int, n api.Node, low, high string) string {
	size := len(plainBytes(n))
	switch {
	case slices.ContainsFunc(r.spots, func(s spot) bool { return s.page == page }):
		return fmt.Sprintf("page %d stood there already", page)
	case depth > 1 && size < 60:
		return fmt.Sprintf("page %d has %d bytes", page, size)
	case depth == 1 && n.Leaf && len(n.Pairs) == 0:
		return "the root has no pairs"
	}
	for _, key := range keysOf(n) {
		if string(key) < low || high != "" && string(key) >= high {
			return fmt.Sprintf("%q on page %d stands not from %q on, ahead of %q", key, page, low, high)
		}
	}
	return ""
}

// plainSome is those of some pairs whose key is so.
func plainSome(pairs []api.Pair, so func(key string) bool) []api.Pair {
	var l []api.Pair
	for _, p := range pairs {
		if so(string(p.Key)) {
			l = append(l, p)
		}
	}
	return l
}

func plainFrom(pairs []api.Pair, from []byte) []api.Pair {
	return plainSome(pairs, func(key string) bool { return key >= string(from) })
}

func plainAhead(pairs []api.Pair, to []byte) []api.Pair {
	return plainSome(pairs, func(key string) bool { return key < string(to) })
}

func plainPrefix(pairs []api.Pair, b []byte) []api.Pair {
	return plainSome(pairs, func(key string) bool { return bytes.HasPrefix([]byte(key), b) })
}

// plainMerge is what the chapter's brackets say, word by word.
func plainMerge(a, b []api.Pair) []api.Pair {
	var l []api.Pair
	for {
		switch {
		case len(a) == 0:
			return append(l, b...)
		case len(b) == 0:
			return append(l, a...)
		case string(b[0].Key) < string(a[0].Key):
			l, b = append(l, b[0]), b[1:]
			continue
		}
		l = append(l, a[0])
		if string(b[0].Key) == string(a[0].Key) {
			b = b[1:]
		}
		a = a[1:]
	}
}

// listed is all that is told, up to so many pairs; copied, so that it stays.
func listed(all iter.Seq2[[]byte, []byte], most int) []api.Pair {
	var l []api.Pair
	if most == 0 {
		return nil
	}
	for key, val := range all {
		l = append(l, api.Pair{Key: bytes.Clone(key), Val: bytes.Clone(val)})
		if len(l) == most {
			break
		}
	}
	return l
}

// samePairs holds lists of pairs against each other.
func samePairs(a, b []api.Pair) bool {
	return slices.EqualFunc(a, b, func(p, q api.Pair) bool {
		return bytes.Equal(p.Key, q.Key) && bytes.Equal(p.Val, q.Val)
	})
}

// draws is a rule by which lives are drawn, always the same of a seed.
type draws uint32

// below draws a number from 0 on, below n.
func (r *draws) below(n int) int {
	*r = *r*1664525 + 1013904223
	return int(uint32(*r)>>8) % n
}

// text draws bytes that are often another text's beginning.
func (r *draws) text(least, most int) []byte {
	b := make([]byte, least+r.below(most-least+1))
	for i := range b {
		b[i] = []byte{0, 1, 'a', 'b', 'c', 200, 255}[r.below(7)]
	}
	return b
}

// order draws the numbers from 0 on, below n, in some order.
func (r *draws) order(n int) []int {
	l := make([]int, n)
	for i := range l {
		j := r.below(i + 1)
		l[i], l[j] = l[j], i
	}
	return l
}

func wantErr(t *testing.T, what string, got, want api.Errno) {
	t.Helper()
	if got != want {
		t.Fatalf("%s answers error %d, not %d", what, int(got), int(want))
	}
}

// wantPairs asks that pairs are as they must be.
func wantPairs(t *testing.T, what string, got, want []api.Pair) {
	t.Helper()
	if !samePairs(got, want) {
		t.Fatalf("%s: %d pairs %.300q, not %d %.300q", what, len(got), got, len(want), want)
	}
}

// wantPair asks for the pair that a list begins with, or for ErrNone and nothing beside it.
func wantPair(t *testing.T, what string, got api.Pair, e api.Errno, want []api.Pair) {
	t.Helper()
	if len(want) == 0 {
		wantNoPair(t, what, got, e, api.ErrNone)
		return
	}
	if e != api.OK || !samePairs([]api.Pair{got}, want[:1]) {
		t.Fatalf("%s answers %q, error %d, not %q", what, got, int(e), want[0])
	}
}

// wantNoPair asks for an error, and for nothing beside it.
func wantNoPair(t *testing.T, what string, got api.Pair, e, want api.Errno) {
	t.Helper()
	if e != want || got.Key != nil || got.Val != nil {
		t.Fatalf("%s answers %q, error %d, not %d", what, got, int(e), int(want))
	}
}

// kindOf is the kind of a node's page.
func kindOf(n api.Node) int {
	if n.Leaf {
		return 3
	}
	return 4
}

// lay lays a node on a new page.
func lay(t *testing.T, p *pager.Pager, n api.Node) int {
	t.Helper()
	page, e := p.New(kindOf(n), plainBytes(n))
	wantErr(t, "New", e, api.OK)
	return page
}

// relay lays another node on a page of this transaction.
func relay(t *testing.T, p *pager.Pager, page int, n api.Node) {
	t.Helper()
	wantErr(t, "pager.Put", p.Put(page, kindOf(n), plainBytes(n)), api.OK)
}
