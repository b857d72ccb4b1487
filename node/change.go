package node

import (
	"bytes"
	"slices"

	"incipit/api"
)

// Set answers the leaf in which key has val.
func Set(n api.Node, key, val []byte) (api.Node, api.Errno) {
	switch {
	case !isLeaf(n):
		return api.Node{}, api.ErrNode
	case !isKey(key) || !isVal(val):
		return api.Node{}, api.ErrArg
	}
	i, is := Find(n, key)
	behind := n.Pairs[i:]
	if is {
		behind = behind[1:]
	}
	return owned(leaf(n.Pairs[:i], []api.Pair{{Key: key, Val: val}}, behind))
}

// Unset answers the leaf without key.
func Unset(n api.Node, key []byte) (api.Node, api.Errno) {
	if !isLeaf(n) {
		return api.Node{}, api.ErrNode
	}
	i, is := Find(n, key)
	if !is {
		return api.Node{}, api.ErrNone
	}
	return owned(leaf(n.Pairs[:i], n.Pairs[i+1:]))
}

// Turn answers the inner node whose i-th child is kid.
func Turn(n api.Node, i, kid int) (api.Node, api.Errno) {
	switch {
	case !isInner(n):
		return api.Node{}, api.ErrNode
	case !isPlace(i, len(n.Kids)) || !isChild(kid):
		return api.Node{}, api.ErrArg
	}
	c := Clone(n)
	c.Kids[i] = kid
	return c, api.OK
}

// Grow answers the inner node with key as its i-th key, and kid behind that.
func Grow(n api.Node, i int, key []byte, kid int) (api.Node, api.Errno) {
	switch {
	case !isInner(n):
		return api.Node{}, api.ErrNode
	case !isPlace(i, len(n.Kids)) || !isChild(kid) || !isKey(key):
		return api.Node{}, api.ErrArg
	}
	return owned(api.Node{
		Keys: slices.Concat(n.Keys[:i], [][]byte{key}, n.Keys[i:]),
		Kids: slices.Concat(n.Kids[:i+1], []int{kid}, n.Kids[i+1:]),
	})
}

// Shrink answers the inner node without its i-th key and the child behind it.
func Shrink(n api.Node, i int) (api.Node, api.Errno) {
	switch {
	case !isInner(n):
		return api.Node{}, api.ErrNode
	case !isPlace(i, len(n.Keys)):
		return api.Node{}, api.ErrArg
	}
	return owned(api.Node{
		Keys: slices.Concat(n.Keys[:i], n.Keys[i+1:]),
		Kids: slices.Concat(n.Kids[:i+1], n.Kids[i+2:]),
	})
}

// Cut answers n's halves, and the key between them, of the place where their Sizes are least apart.
func Cut(n api.Node) (api.Node, []byte, api.Node, api.Errno) {
	if !mayBe(n) {
		return api.Node{}, nil, api.Node{}, api.ErrNode
	}
	i, is := middle(n)
	if !is {
		return api.Node{}, nil, api.Node{}, api.ErrNone
	}
	a, key, b := halves(n, i)
	return Clone(a), bytes.Clone(key), Clone(b), api.OK
}

// Join answers what a and b are in one; key stands between them, if they are inner nodes.
func Join(a api.Node, key []byte, b api.Node) (api.Node, api.Errno) {
	switch {
	case isLeaf(a) && isLeaf(b):
		return owned(leaf(a.Pairs, b.Pairs))
	case !isInner(a) || !isInner(b):
		return api.Node{}, api.ErrNode
	case !isKey(key):
		return api.Node{}, api.ErrArg
	}
	return owned(api.Node{
		Keys: slices.Concat(a.Keys, [][]byte{key}, b.Keys),
		Kids: slices.Concat(a.Kids, b.Kids),
	})
}

// leaf answers a leaf with these rows of pairs; whether it may be is not asked.
func leaf(rows ...[]api.Pair) api.Node {
	return api.Node{Leaf: true, Pairs: slices.Concat(rows...)}
}

// owned answers n in memory of its own; ErrNode, if it may not be.
func owned(n api.Node) (api.Node, api.Errno) {
	if !mayBe(n) {
		return api.Node{}, api.ErrNode
	}
	return Clone(n), api.OK
}

func isPlace(i, count int) bool { return i >= 0 && i < count }

// halves answers what n is when it is cut at place i, still in n's memory.
func halves(n api.Node, i int) (api.Node, []byte, api.Node) {
	if n.Leaf {
		a := api.Node{Leaf: true, Pairs: n.Pairs[:i:i]}
		b := api.Node{Leaf: true, Pairs: n.Pairs[i:]}
		return a, n.Pairs[i].Key, b
	}
	a := api.Node{Keys: n.Keys[:i:i], Kids: n.Kids[: i+1 : i+1]}
	b := api.Node{Keys: n.Keys[i+1:], Kids: n.Kids[i+1:]}
	return a, n.Keys[i], b
}

// middle answers the first of the places where n's halves are least apart, and whether there is any.
func middle(n api.Node) (int, bool) {
	sizes := parts(n)
	ahead, behind := 0, 0
	for _, size := range sizes {
		behind += size
	}
	best, least := 0, 0
places:
	for i, size := range sizes {
		first, second := ahead, behind
		ahead, behind = ahead+size, behind-size
		if !n.Leaf {
			second = behind // the key at which an inner node is cut goes to neither half
		}
		apart := max(first-second, second-first)
		switch {
		case first == 0, second == 0: // a half that would have nothing
			continue places
		case best > 0 && apart >= least:
			continue places
		}
		best, least = i, apart
	}
	return best, best > 0
}
