package cursor_test

import (
	"fmt"
	"slices"
	"testing"

	"incipit/api"
	"incipit/pager"
	"incipit/tree"
)

// Trees that are laid by hand, node by node, also such as no Puts come to.

// leafOf is a leaf of these keys, each with a value of so many bytes.
func leafOf(val int, keys ...[]byte) api.Node {
	n := api.Node{Leaf: true}
	for _, key := range keys {
		n.Pairs = append(n.Pairs, api.Pair{Key: key, Val: make([]byte, val)})
	}
	return n
}

// leafWith is a leaf of these keys, each with the longest value.
func leafWith(keys ...string) api.Node {
	n := leafOf(24)
	for _, key := range keys {
		n.Pairs = append(n.Pairs, api.Pair{Key: []byte(key), Val: longVal(7)})
	}
	return n
}

// innerWith is an inner node of these children, and keys between them.
func innerWith(kids []int, keys ...string) api.Node {
	n := api.Node{Kids: kids}
	for _, key := range keys {
		n.Keys = append(n.Keys, []byte(key))
	}
	return n
}

// hand is a tree that is right, laid by hand: its keys are such that there is room between them.
type hand struct {
	t     *testing.T
	p     *pager.Pager
	x     *tree.Tree
	spots []spot
}

// handKey is the i-th key of such a tree.
func handKey(i int) []byte { return longKey(1000 + 10*i) }

// laid lays a tree of that height by hand, the keys from the first on, and answers its root and how many keys it has: leaves of two pairs, inner nodes of four children.
func laid(t *testing.T, p *pager.Pager, first, height int) (int, int) {
	t.Helper()
	if height == 1 {
		return lay(t, p, leafOf(24, handKey(first), handKey(first+1))), 2
	}
	var n api.Node
	count := 0
	for i := range 4 {
		if i > 0 {
			n.Keys = append(n.Keys, handKey(first+count))
		}
		kid, keys := laid(t, p, first+count, height-1)
		n.Kids = append(n.Kids, kid)
		count += keys
	}
	return lay(t, p, n), count
}

// handLaid is such a tree, on a new device.
func handLaid(t *testing.T, height int) *hand {
	t.Helper()
	_, p := formatted(t, 120, 4)
	root, _ := laid(t, p, 0, height)
	h := &hand{t: t, p: p, x: at(t, p, root, height)}
	r := read(h.x)
	if r.wrong != api.OK {
		t.Fatalf("laid by hand, but %s, error %d", r.why, int(r.wrong))
	}
	h.spots = r.spots
	return h
}

// above is the node above a spot's, as it is now, its page, and which child the spot is; there is none above the root.
func (h *hand) above(i int) (api.Node, int, int) {
	h.t.Helper()
	for n := i - 1; n >= 0; n-- {
		s := h.spots[n]
		if s.depth != h.spots[i].depth-1 {
			continue
		}
		kid := slices.Index(s.node.Kids, h.spots[i].page)
		now, e := h.x.Node(s.page, s.depth)
		wantErr(h.t, fmt.Sprintf("Node(%d)", s.page), e, api.OK)
		return now, s.page, kid
	}
	h.t.Fatal("nothing stands above the root")
	return api.Node{}, 0, 0
}

// lead makes the node above the i-th spot lead to another page there.
func (h *hand) lead(i, page int) {
	h.t.Helper()
	n, above, kid := h.above(i)
	n.Kids[kid] = page
	relay(h.t, h.p, above, n)
}

// fault is a way in which a spot can be made wrong, and what Check is to tell of it.
type fault struct {
	name string
	want api.Errno
	make func(h *hand, i int)
	may  func(h *hand, i int) bool // whether it can be so there; nil, if it can everywhere
}

func notTheRoot(h *hand, i int) bool { return i > 0 }

func isLeaf(h *hand, i int) bool { return h.spots[i].node.Leaf }

func hasLow(h *hand, i int) bool { return h.spots[i].low != "" }

func hasHigh(h *hand, i int) bool { return h.spots[i].high != "" }

// raw lays bytes on the i-th spot's page, as they stand.
func (h *hand) raw(i int, b []byte) {
	h.t.Helper()
	wantErr(h.t, "PutRaw", h.p.PutRaw(h.spots[i].page, b), api.OK)
}

// rekey gives the i-th spot's node another first or last key.
func (h *hand) rekey(i int, last bool, key []byte) {
	h.t.Helper()
	was := h.spots[i].node
	n := api.Node{Leaf: was.Leaf, Pairs: slices.Clone(was.Pairs), Keys: slices.Clone(was.Keys), Kids: was.Kids}
	at := 0
	if last {
		at = len(keysOf(n)) - 1
	}
	if n.Leaf {
		n.Pairs[at].Key = key
	} else {
		n.Keys[at] = key
	}
	relay(h.t, h.p, h.spots[i].page, n)
}

// small is a node that has fewer than MinFill bytes, with keys that may stand there.
func small(n api.Node) api.Node {
	if n.Leaf {
		return api.Node{Leaf: true, Pairs: n.Pairs[:1]}
	}
	return api.Node{Keys: n.Keys[:1], Kids: n.Kids[:2]}
}

// lastOne is a text with its last byte one more, or less.
func lastOne(text string, more int) []byte {
	b := []byte(text)
	b[len(b)-1] += byte(more)
	return b
}

// faults are all reasons that P12.4 names, and each error of tree.Node.
func faults() []fault {
	framed := func(kind func(n api.Node) int, off int, bears func(n api.Node) []byte) func(h *hand, i int) {
		return func(h *hand, i int) {
			s := h.spots[i]
			h.raw(i, plainFrame(kind(s.node), s.page+off, bears(s.node)))
		}
	}
	other := func(n api.Node) int { return 7 - kindOf(n) }
	return []fault{
		{"bytes without a frame", api.ErrSum, func(h *hand, i int) { h.raw(i, []byte("spoilt")) }, nil},
		{"another page's frame", api.ErrPage, framed(kindOf, 1, plainBytes), nil},
		{"the other kind", api.ErrKind, framed(other, 0, plainBytes), nil},
		{"a head's kind", api.ErrKind, framed(func(api.Node) int { return 1 }, 0, plainBytes), nil},
		{"no node", api.ErrNode, framed(kindOf, 0, func(api.Node) []byte { return []byte{1} }), nil},
		{"a free page", api.ErrNone, func(h *hand, i int) { wantErr(h.t, "Free", h.p.Free(h.spots[i].page), api.OK) }, nil},
		{"a page that is not there", api.ErrArg, func(h *hand, i int) { h.lead(i, 120) }, notTheRoot},
		{"a page that stood there already", api.ErrTree, func(h *hand, i int) { h.lead(i, h.spots[h.likeAhead(i)].page) }, func(h *hand, i int) bool { return h.likeAhead(i) >= 0 }},
		{"a page of the other kind that stood there already", api.ErrKind, func(h *hand, i int) { h.lead(i, h.spots[0].page) }, func(h *hand, i int) bool { return i > 0 && isLeaf(h, i) }},
		{"fewer than MinFill bytes", api.ErrTree, func(h *hand, i int) { relay(h.t, h.p, h.spots[i].page, small(h.spots[i].node)) }, notTheRoot},
		{"no pairs", api.ErrTree, func(h *hand, i int) { relay(h.t, h.p, h.spots[i].page, api.Node{Leaf: true}) }, isLeaf},
		{"a key right ahead of the least", api.ErrTree, func(h *hand, i int) { h.rekey(i, false, lastOne(h.spots[i].low, -1)) }, hasLow},
		{"a key far ahead of the least", api.ErrTree, func(h *hand, i int) { h.rekey(i, false, []byte{0}) }, hasLow},
		{"the least key's beginning", api.ErrTree, func(h *hand, i int) { h.rekey(i, false, []byte(h.spots[i].low[:24])) }, hasLow},
		{"the key that ends them", api.ErrTree, func(h *hand, i int) { h.rekey(i, true, []byte(h.spots[i].high)) }, hasHigh},
		{"a key right behind the end", api.ErrTree, func(h *hand, i int) { h.rekey(i, true, lastOne(h.spots[i].high, 1)) }, hasHigh},
		{"a key far behind the end", api.ErrTree, func(h *hand, i int) { h.rekey(i, true, []byte{255}) }, hasHigh},
	}
}

// likeAhead is a spot ahead of the i-th with a node of that kind, or -1.
func (h *hand) likeAhead(i int) int {
	for n := i - 1; n >= 0; n-- {
		if h.spots[n].node.Leaf == h.spots[i].node.Leaf {
			return n
		}
	}
	return -1
}

// can answers whether a fault can be at the i-th spot.
func (f fault) can(h *hand, i int) bool { return f.may == nil || f.may(h, i) }

// knot lays so many pages of nodes that lead anywhere, and answers the pages.
func knot(t *testing.T, p *pager.Pager, r *draws, count int) []int {
	t.Helper()
	var pages []int
	for range count {
		n := leafOf(24, r.text(20, 25))
		if r.below(5) > 0 {
			n.Pairs = append(n.Pairs, api.Pair{Key: append([]byte{255}, r.text(20, 24)...), Val: longVal(3)})
		}
		if string(n.Pairs[0].Key) >= string(n.Pairs[len(n.Pairs)-1].Key) {
			n.Pairs = n.Pairs[:1]
		}
		pages = append(pages, lay(t, p, n))
	}
	kid := func() int {
		if r.below(30) == 0 {
			return []int{2, 2047, p.Pages() - 1, p.Pages()}[r.below(4)]
		}
		return pages[r.below(len(pages))]
	}
	for _, page := range pages {
		if r.below(3) == 0 {
			continue
		}
		n := api.Node{Kids: []int{kid()}}
		for i := range 1 + r.below(3) {
			n.Keys = append(n.Keys, append([]byte{byte(80*i + r.below(80) + 1)}, r.text(0, 24)...))
			n.Kids = append(n.Kids, kid())
		}
		relay(t, p, page, n)
	}
	return pages
}

// ladder lays a tree of that height in which all children of a node are one page, and each node is full.
func ladder(t *testing.T, p *pager.Pager, height int) int {
	t.Helper()
	page := lay(t, p, leafOf(19, two(1), two(2), two(3), two(4), two(5), two(6)))
	for range height - 1 {
		n := api.Node{Kids: []int{page}}
		for i := range 50 {
			n.Keys, n.Kids = append(n.Keys, []byte{byte(i + 1)}), append(n.Kids, page)
		}
		page = lay(t, p, n)
	}
	return page
}
