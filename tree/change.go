package tree

import (
	"slices"

	"incipit/api"
	"incipit/node"
)

// row is what comes in the place of a node's children that stand side by side.
type row struct {
	first int        // which child is the first of them
	old   []int      // their pages
	nodes []api.Node // what is to stand there
	keys  [][]byte   // what is to stand between these
}

// change brings about what turn makes of the leaf that key leads to.
func (t *Tree) change(key []byte, turn func(leaf api.Node) (api.Node, api.Errno)) api.Errno {
	way, e := t.down(key)
	if e != api.OK {
		return e
	}
	leaf, e := turn(leafOf(way))
	if e != api.OK {
		return e
	}
	return t.up(way, leaf)
}

// up lays n in the place of the leaf that the way ends at, and goes back up as far as nodes change by it.
func (t *Tree) up(way []place, n api.Node) api.Errno {
	e := api.OK
up:
	for depth := len(way); ; depth-- {
		if depth <= 1 {
			e = t.crown(n)
			break up
		}
		above := way[depth-2]
		var r row
		if r, e = t.even(above, n, depth); e != api.OK {
			break up
		}
		var pages []int
		switch pages, e = t.lay(r.old, r.nodes); {
		case e != api.OK:
			break up
		case len(r.keys) == 0 && slices.Equal(pages, r.old): // the node above leads here already
			break up
		}
		n = r.within(above.node, pages)
	}
	return e
}

// even answers what comes in the place of above's child on the way, which is to be n: where n is too small it is joined with a neighbour, and what does not fit is cut.
func (t *Tree) even(above place, n api.Node, depth int) (row, api.Errno) {
	first, count := above.kid, 1
	e := api.OK
	if node.Size(n) < api.MinFill {
		// An inner node has two children at least, so that there is a neighbour: the one ahead, or, of the first child, the one behind.
		first, count = max(above.kid-1, 0), 2
		if n, e = t.joined(above, first, n, depth); e != api.OK {
			return row{}, e
		}
	}
	nodes, keys, e := fit(n)
	return row{first: first, old: above.node.Kids[first : first+count], nodes: nodes, keys: keys}, e
}

// joined answers n and its neighbour as one node: they are above's children on both sides of its i-th key.
func (t *Tree) joined(above place, i int, n api.Node, depth int) (api.Node, api.Errno) {
	a, b := n, n
	var e api.Errno
	if above.kid == i {
		b, e = t.Node(above.node.Kids[i+1], depth)
	} else {
		a, e = t.Node(above.node.Kids[i], depth)
	}
	if e != api.OK {
		return api.Node{}, e
	}
	key := above.node.Keys[i]
	if n.Leaf || len(n.Keys) > 0 {
		return node.Join(a, key, b)
	}
	// Below small nodes, which a tree that is right has not, an inner node may be left with one child, and is no node by itself.
	return api.Node{
		Keys: slices.Concat(a.Keys, [][]byte{key}, b.Keys),
		Kids: slices.Concat(a.Kids, b.Kids),
	}, api.OK
}

// fit answers n, or its halves and the key between them, if it does not fit.
func fit(n api.Node) ([]api.Node, [][]byte, api.Errno) {
	if node.Size(n) <= api.Payload {
		return []api.Node{n}, nil, api.OK
	}
	a, key, b, e := node.Cut(n)
	if e != api.OK {
		return nil, nil, e
	}
	return []api.Node{a, b}, [][]byte{key}, api.OK
}

// within answers above with the row in its place, on these pages. Whether it may be is not asked: a root may be left with one child, and goes then.
func (r row) within(above api.Node, pages []int) api.Node {
	end := r.first + len(r.old)
	return api.Node{
		Keys: slices.Concat(above.Keys[:r.first], r.keys, above.Keys[end-1:]),
		Kids: slices.Concat(above.Kids[:r.first], pages, above.Kids[end:]),
	}
}

// crown makes n the root. It may be small, but one that leads to a single child, or to nothing, goes; where it does not fit another root is laid over its halves.
func (t *Tree) crown(n api.Node) api.Errno {
	var old []int
	if t.height > 0 {
		old = []int{t.root}
	}
	switch {
	case n.Leaf && len(n.Pairs) == 0:
		return t.uproot(old, 0, 0)
	case !n.Leaf && len(n.Keys) == 0:
		return t.uproot(old, n.Kids[0], t.height-1)
	}
	// No height is asked for: a tree that is right has too few pages to come near MaxHeight.
	height := max(t.height, 1)
	for {
		nodes, keys, e := fit(n)
		if e != api.OK {
			return e
		}
		pages, e := t.lay(old, nodes)
		if e != api.OK {
			return e
		}
		if len(pages) == 1 {
			t.root, t.height = pages[0], height
			return api.OK
		}
		n, old, height = api.Node{Keys: keys, Kids: pages}, nil, height+1
	}
}

// uproot lets the root go, and makes another page the root, at that height.
func (t *Tree) uproot(old []int, root, height int) api.Errno {
	if _, e := t.lay(old, nil); e != api.OK {
		return e
	}
	t.root, t.height = root, height
	return api.OK
}

// lay writes nodes in the place of those on the old pages, and answers their pages. Old pages of this transaction are written over; all others stay as they are, since the last commit has them, and are let go.
func (t *Tree) lay(old []int, nodes []api.Node) ([]int, api.Errno) {
	mine := slices.DeleteFunc(slices.Clone(old), func(page int) bool { return !t.pager.Mine(page) })
	var pages []int
	for i, n := range nodes {
		over := 0
		if i < len(mine) {
			over = mine[i]
		}
		page, e := t.write(n, over)
		if e != api.OK {
			return nil, e
		}
		pages = append(pages, page)
	}
	for _, page := range old {
		if slices.Contains(pages, page) {
			continue
		}
		if e := t.letGo(page); e != api.OK {
			return nil, e
		}
	}
	return pages, api.OK
}

// write lays n on the page over, or on a new one, if that is 0, and answers which.
func (t *Tree) write(n api.Node, over int) (int, api.Errno) {
	kind, b, e := node.Put(n)
	switch {
	case e != api.OK:
		return 0, e
	case over == 0:
		return t.pager.New(kind, b)
	}
	return over, t.pager.Put(over, kind, b)
}

// letGo frees a page that is a node's no more. One that is held is let go already: its node was read at a root that another tree has gone on from since the commit.
func (t *Tree) letGo(page int) api.Errno {
	e := t.pager.Free(page)
	if e == api.ErrNone {
		return api.OK
	}
	return e
}
