package cursor

import (
	"incipit/api"
	"incipit/node"
	"incipit/pack"
	"incipit/tree"
)

// Check tells whether a tree is right: OK, or what is not right at the first node that is not.
func Check(t *tree.Tree) api.Errno {
	if !made(t) {
		return api.ErrMade
	}
	for v, e := range walk(t, onward(nil)) {
		switch {
		case e != api.OK:
			return e
		case !v.right():
			return api.ErrTree
		}
	}
	return api.OK
}

// right answers whether a node may stand where it does.
func (v visit) right() bool {
	if v.depth == 1 && v.node.Leaf && len(v.node.Pairs) == 0 {
		return false
	}
	if v.depth > 1 && node.Size(v.node) < api.MinFill {
		return false
	}
	for _, p := range v.node.Pairs {
		if !v.allows(p.Key) {
			return false
		}
	}
	for _, key := range v.node.Keys {
		if !v.allows(key) {
			return false
		}
	}
	return true
}

// allows answers whether a key may stand there.
func (s spot) allows(key []byte) bool {
	ends := len(s.high) > 0 // no key has no bytes
	return pack.Compare(key, s.low) >= 0 && !(ends && pack.Compare(key, s.high) >= 0)
}
