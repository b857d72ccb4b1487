package cursor

import (
	"iter"
	"slices"

	"incipit/api"
	"incipit/node"
	"incipit/tree"
)

// spot is a place in the tree, and what its keys may be.
type spot struct {
	page, depth int
	low         []byte // the least key; none, if any may be
	high        []byte // the key that ends them; none, if nothing does
}

// visit is what a walk finds at a spot.
type visit struct {
	spot
	node api.Node
}

// choice answers to which of an inner node's children a walk goes, in their order.
type choice func(n api.Node, kids []spot) []spot

// walk goes from the root on to each node ahead of its children, reading it only when it is come to, up to the first error, which is told, too. ErrTree is told where a page stood there already: so it ends, and soon, wherever pages lead.
func walk(t *tree.Tree, chosen choice) iter.Seq2[visit, api.Errno] {
	return func(yield func(visit, api.Errno) bool) {
		var way []spot // what is still to be gone to, the next one last
		if root, height := t.Root(); height > 0 {
			way = append(way, spot{page: root, depth: 1})
		}
		stood := map[int]struct{}{}
	down:
		for len(way) > 0 {
			at := way[len(way)-1]
			way = way[:len(way)-1]
			n, e := t.Node(at.page, at.depth)
			if _, again := stood[at.page]; again && e == api.OK {
				e = api.ErrTree
			}
			stood[at.page] = struct{}{}
			switch {
			case !yield(visit{spot: at, node: n}, e), e != api.OK:
				break down
			case n.Leaf:
				continue down
			}
			kids := chosen(n, at.below(n))
			slices.Reverse(kids)
			way = append(way, kids...)
		}
	}
}

// below answers where the children of n stand, which stands at s.
func (s spot) below(n api.Node) []spot {
	var kids []spot
	low := s.low
	for i, page := range n.Kids {
		high := s.high
		if i < len(n.Keys) {
			high = n.Keys[i]
		}
		kids = append(kids, spot{page: page, depth: s.depth + 1, low: low, high: high})
		low = high
	}
	return kids
}

// onward goes to the child that key leads to, and to those behind it.
func onward(key []byte) choice {
	return func(n api.Node, kids []spot) []spot { return kids[node.Kid(n, key):] }
}

// backward goes to the child that key leads to, and then to those ahead of it, the last one first.
func backward(key []byte) choice {
	return func(n api.Node, kids []spot) []spot {
		kids = kids[:node.Kid(n, key)+1]
		slices.Reverse(kids)
		return kids
	}
}
