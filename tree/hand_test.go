package tree_test

import (
	"bytes"
	"fmt"
	"slices"
	"testing"

	"incipit/api"
	"incipit/pager"
	"incipit/tree"
)

// Trees that are laid by hand, node by node, also such as no Puts come to.

// leafWith is a leaf of these keys, each with itself as its value.
func leafWith(keys ...string) api.Node {
	n := api.Node{Leaf: true}
	for _, key := range keys {
		n.Pairs = append(n.Pairs, api.Pair{Key: []byte(key), Val: []byte(key)})
	}
	return n
}

// innerWith is an inner node of these children, and keys between them.
func innerWith(kids []int, keys ...string) api.Node {
	n := api.Node{Kids: kids}
	for _, key := range keys {
		n.Keys = append(n.Keys, []byte(key))
	}
	return n
}

// kindOf is the kind of a node's page.
func kindOf(n api.Node) int {
	if n.Leaf {
		return 3
	}
	return 4
}

// lay lays a node on a new page.
func lay(t *testing.T, p *pager.Pager, n api.Node) int {
	t.Helper()
	page, e := p.New(kindOf(n), plainBytes(n))
	wantErr(t, "New", e, api.OK)
	return page
}

// relay lays another node on a page of this transaction.
func relay(t *testing.T, p *pager.Pager, page int, n api.Node) {
	t.Helper()
	wantErr(t, "pager.Put", p.Put(page, kindOf(n), plainBytes(n)), api.OK)
}

// twig lays a tree of that height in which each inner node has two children and each leaf one pair: the keys from first on.
func twig(t *testing.T, p *pager.Pager, first, height int) int {
	t.Helper()
	if height == 1 {
		return lay(t, p, leafWith(string(two(first))))
	}
	half := 1 << (height - 2)
	kids := []int{twig(t, p, first, height-1), twig(t, p, first+half, height-1)}
	return lay(t, p, innerWith(kids, string(two(first+half))))
}

// twigs is such a tree beside its map, committed or not.
func twigs(t *testing.T, height int, committed bool) *both {
	t.Helper()
	b := empty(t, 400, 6)
	b.what = fmt.Sprintf("small nodes, height %d, committed %v", height, committed)
	b.x = at(t, b.p, twig(t, b.p, 0, height), height)
	for i := range 1 << (height - 1) {
		b.m[string(two(i))] = string(two(i))
	}
	if committed {
		wantErr(t, "Commit", b.commit(), api.OK)
	}
	return b
}

// whole asks of a tree whose nodes may be small all that right does but for that.
func (b *both) whole(call string) {
	b.t.Helper()
	root, height := b.x.Root()
	r := &reading{p: b.p, height: height, stood: map[int]bool{}, small: true}
	if height > 0 {
		r.from(root, 1, nil, nil)
	}
	if r.wrong != "" {
		b.t.Fatalf("%s: behind %s: %s", b.what, call, r.wrong)
	}
	b.hasPairs(call, r)
	want := slices.Concat([]int{0, 1}, b.p.Maps(), r.pages)
	slices.Sort(want)
	if taken := b.p.Taken(); !slices.Equal(taken, want) {
		b.t.Fatalf("%s: behind %s: the pages %v are taken, not %v", b.what, call, taken, want)
	}
}

// P11.2: a tree whose nodes are smaller than those of a right one is a map, too.
func TestTreesOfSmallNodes(t *testing.T) {
	for height := 1; height <= 6; height++ {
		for _, committed := range []bool{false, true} {
			for _, order := range orders(1 << (height - 1)) {
				b := twigs(t, height, committed)
				b.whole("At")
				b.getAll()
				for _, i := range order {
					b.delete(two(i))
					b.whole("Delete")
					b.getAll()
				}
				if root, high := b.x.Root(); root != 0 || high != 0 {
					t.Fatalf("%s: nothing is left, but the root is %d, the height %d", b.what, root, high)
				}
			}
			b := twigs(t, height, committed)
			r := draws(height)
			for range 150 {
				b.put(r.text(1, 25), r.text(0, 24))
				b.whole("Put")
				b.delete(two(r.below(40)))
				b.whole("Delete")
			}
		}
	}
}

// A root that is a leaf without pairs is told as it stands, and put into.
func TestARootWithoutPairs(t *testing.T) {
	b := empty(t, 20, 2)
	page := lay(t, b.p, leafWith())
	b.x = at(t, b.p, page, 1)
	b.get([]byte("a"))
	b.delete([]byte("a"))
	if n, e := b.x.Node(page, 1); e != api.OK || !sameNode(n, leafWith()) {
		t.Fatal("Node", n, e)
	}
	if l, e := b.x.Pages(); e != api.OK || !slices.Equal(l, []int{page}) {
		t.Fatal("Pages", l, e)
	}
	b.put([]byte("a"), []byte("1"))
	b.right("Put")
}

// A tree at the root of the last commit, from which another one has gone on, is put into: the pages that it leaves are let go already.
func TestATreeThatGoesOnFromAnOldRoot(t *testing.T) {
	s := sorts[2]
	b := grown(t, 400, 4, s, 60)
	root, height := b.x.Root()
	for i := range 60 {
		b.put(s.key(i), nil)
	}
	b.x = at(t, b.p, root, height)
	for i := range 60 {
		b.m[string(s.key(i))] = string(s.val(i))
	}
	for i := range 60 {
		b.put(s.key(i), []byte("another way"))
		b.delete(s.key((i + 30) % 60))
		b.getAll()
	}
}

// knot lays so many pages of nodes that lead anywhere, and answers the pages.
func knot(t *testing.T, p *pager.Pager, r *draws, count int) []int {
	t.Helper()
	var pages []int
	for range count {
		pages = append(pages, lay(t, p, leafWith(string(r.text(1, 3)))))
	}
	kid := func() int {
		if r.below(30) == 0 {
			return []int{2, 2047, p.Pages() - 1, p.Pages()}[r.below(4)]
		}
		return pages[r.below(len(pages))]
	}
	for _, page := range pages {
		if r.below(3) == 0 {
			continue
		}
		n := api.Node{Kids: []int{kid()}}
		for i := range 1 + r.below(3) {
			n.Keys, n.Kids = append(n.Keys, []byte{byte(50*i + r.below(50) + 1)}), append(n.Kids, kid())
		}
		relay(t, p, page, n)
	}
	return pages
}

// plainWalk goes through all nodes, but not again below one that stood there already: what Nodes and Pages are to tell.
type plainWalk struct {
	x     *tree.Tree
	stood map[int]bool
	nodes []int // what Nodes tells
	twice bool
	err   api.Errno // the first one
}

func (w *plainWalk) from(page, depth int) {
	if w.err != api.OK {
		return
	}
	n, e := w.x.Node(page, depth)
	if w.err = e; e != api.OK {
		return
	}
	if w.stood[page] {
		w.twice = true
		return
	}
	w.stood[page] = true
	if !w.twice {
		w.nodes = append(w.nodes, page)
	}
	for _, kid := range n.Kids {
		w.from(kid, depth+1)
	}
}

// P11.3, R1, R2: pages that lead anywhere, round and twice: Nodes tells them up to the first that can't be read, or that stood there already; Pages tells the first error of one that can't be read, else ErrNode; and all calls end, and do not panic.
func TestKnots(t *testing.T) {
	t.Parallel()
	met := map[api.Errno]int{}
	for seed := range 1500 {
		r := draws(seed)
		_, p := formatted(t, 30, 2+r.below(6))
		pages := knot(t, p, &r, 2+r.below(8))
		for height := 1; height <= 5; height++ {
			for _, root := range pages {
				x := at(t, p, root, height)
				met[wantWalk(t, fmt.Sprintf("seed %d, root %d, height %d", seed, root, height), x)]++
			}
		}
		for range 20 {
			x := at(t, p, pages[r.below(len(pages))], 1+r.below(8))
			x.Put(r.text(1, 25), r.text(0, 24))
			x.Delete(r.text(1, 3))
			x.Get(r.text(1, 3))
			x.Pages()
			for range x.Nodes() {
			}
		}
	}
	for _, e := range []api.Errno{api.OK, api.ErrNode, api.ErrKind, api.ErrArg, api.ErrNone} {
		if met[e] < 20 {
			t.Errorf("the rule draws too few trees of which Pages answers %d: %v", int(e), met)
		}
	}
}

// wantWalk asks that Nodes and Pages tell what going through all does, and answers Pages's error.
func wantWalk(t *testing.T, what string, x *tree.Tree) api.Errno {
	t.Helper()
	root, _ := x.Root()
	w := &plainWalk{x: x, stood: map[int]bool{}}
	w.from(root, 1)
	var nodes []int
	for page := range x.Nodes() {
		nodes = append(nodes, page)
	}
	if !slices.Equal(nodes, w.nodes) {
		t.Fatalf("%s: Nodes tells %v, not %v", what, nodes, w.nodes)
	}
	want, wantE := slices.Sorted(slices.Values(w.nodes)), w.err
	if wantE == api.OK && w.twice {
		wantE = api.ErrNode
	}
	if wantE != api.OK {
		want = nil
	}
	got, e := x.Pages()
	if e != wantE || !slices.Equal(got, want) {
		t.Fatalf("%s: Pages answers %v, error %d, not %v, error %d", what, got, int(e), want, int(wantE))
	}
	return e
}

// ladder lays a tree of that height in which all children of a node are one page, and each node is full.
func ladder(t *testing.T, p *pager.Pager, height int) int {
	t.Helper()
	key := func(depth, i int) []byte {
		return append(bytes.Repeat([]byte{100}, depth-1), byte(90+i))
	}
	leaf := api.Node{Leaf: true}
	for i := range 12 {
		leaf.Pairs = append(leaf.Pairs, api.Pair{Key: key(height, i), Val: make([]byte, 19-2-height)})
	}
	page := lay(t, p, leaf)
	for depth := height - 1; depth > 0; depth-- {
		n := api.Node{Kids: []int{page}}
		for i := range 237 / (3 + depth) {
			n.Keys, n.Kids = append(n.Keys, key(depth, i)), append(n.Kids, page)
		}
		page = lay(t, p, n)
	}
	return page
}

// THE BOUND, R1: however often a page stands in a tree, Nodes and Pages end soon: there are above 23 to the power of 7 ways down this one. It may be put into.
func TestALadder(t *testing.T) {
	for height := 1; height <= api.MaxHeight; height++ {
		_, p := formatted(t, 100, 3)
		x := at(t, p, ladder(t, p, height), height)
		count := 0
		for range x.Nodes() {
			count++
		}
		want := api.ErrNode
		if height == 1 {
			want = api.OK
		}
		if _, e := x.Pages(); e != want || count != height {
			t.Fatalf("height %d: Pages answers error %d, Nodes tells %d", height, int(e), count)
		}
		key := bytes.Repeat([]byte{100}, height+1)
		for i := range 20 {
			key[height] = byte(i)
			e := x.Put(key, make([]byte, 24))
			if height == api.MaxHeight {
				continue // its root does not fit at the first Put: what comes of a tree that would be too high is not asked
			}
			wantErr(t, "Put", e, api.OK)
			if val, e := x.Get(key); e != api.OK || len(val) != 24 {
				t.Fatalf("height %d: Get answers %v, error %d", height, val, int(e))
			}
		}
		if _, high := x.Root(); height < api.MaxHeight && high != height+1 {
			t.Fatalf("the height was %d and is %d", height, high)
		}
		if _, e := x.Pages(); e != want {
			t.Fatalf("height %d: Pages answers error %d", height, int(e))
		}
	}
}
