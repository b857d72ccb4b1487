package tree

import (
	"iter"
	"slices"

	"incipit/api"
	"incipit/node"
)

// spot is a page that a walk comes to, and the depth at which it does.
type spot struct{ page, depth int }

// visit is what a walk finds at a spot.
type visit struct {
	page  int
	node  api.Node
	again bool // the page stood there already
}

// Node answers the node on a page, read as one that stands at that depth.
func (t *Tree) Node(page, depth int) (api.Node, api.Errno) {
	switch {
	case !t.made():
		return api.Node{}, api.ErrMade
	case depth < 1 || depth > t.height:
		return api.Node{}, api.ErrArg
	}
	kind := api.KindInner
	if depth == t.height {
		kind = api.KindLeaf
	}
	b, e := t.pager.Read(page, kind)
	if e != api.OK {
		return api.Node{}, e
	}
	return node.Get(kind, b)
}

// Nodes tells the nodes from the root on, each ahead of its children, with their pages, up to the first that can't be read, or that stood there already.
func (t *Tree) Nodes() iter.Seq2[int, api.Node] {
	return func(yield func(int, api.Node) bool) {
		// Whoever ranges may change the tree meanwhile, and is told what was there when it began.
		for _, v := range t.readable() {
			if !yield(v.page, v.node) {
				return
			}
		}
	}
}

// Pages answers the pages of all nodes, rising.
func (t *Tree) Pages() ([]int, api.Errno) {
	if !t.made() {
		return nil, api.ErrMade
	}
	var pages []int
	twice := false
	for v, e := range t.walk() {
		switch {
		case e != api.OK:
			return nil, e
		case v.again: // the walk goes on: a page that can't be read is told first
			twice = true
		default:
			pages = append(pages, v.page)
		}
	}
	if twice {
		return nil, api.ErrNode
	}
	slices.Sort(pages)
	return pages, api.OK
}

// readable answers what Nodes tells.
func (t *Tree) readable() []visit {
	var l []visit
	for v, e := range t.walk() {
		if e != api.OK || v.again {
			break
		}
		l = append(l, v)
	}
	return l
}

// walk goes to each node ahead of its children, and to these from the first on, up to the first error. Of a page that stood there already the children are not gone to again: so it ends, and soon, wherever they lead.
func (t *Tree) walk() iter.Seq2[visit, api.Errno] {
	return func(yield func(visit, api.Errno) bool) {
		if !t.made() || t.height == 0 {
			return
		}
		stood := map[int]struct{}{}
		next := []spot{{page: t.root, depth: 1}}
		for len(next) > 0 {
			at := next[len(next)-1]
			next = next[:len(next)-1]
			n, e := t.Node(at.page, at.depth)
			_, again := stood[at.page]
			if !again {
				stood[at.page] = struct{}{}
				next = append(next, below(n, at.depth)...)
			}
			if !yield(visit{page: at.page, node: n, again: again}, e) || e != api.OK {
				return
			}
		}
	}
}

// below answers where a node's children stand, the first one last.
func below(n api.Node, depth int) []spot {
	var l []spot
	for _, kid := range slices.Backward(n.Kids) {
		l = append(l, spot{page: kid, depth: depth + 1})
	}
	return l
}
