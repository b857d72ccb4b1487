package node_test

import (
	"bytes"
	"fmt"
	"slices"
	"testing"

	"incipit/api"
)

// The chapter's own words, done by hand: what the package is held against.

func plainIsKey(key []byte) bool { return len(key) >= 1 && len(key) <= 25 }

func plainIsKid(kid int) bool { return kid >= 2 && kid <= 2047 }

// keysOf is the keys of a leaf's pairs, or of an inner node.
func keysOf(n api.Node) [][]byte {
	if !n.Leaf {
		return n.Keys
	}
	var l [][]byte
	for _, p := range n.Pairs {
		l = append(l, p.Key)
	}
	return l
}

func plainMayBe(n api.Node) bool {
	keys := keysOf(n)
	for i, key := range keys {
		if !plainIsKey(key) || i > 0 && string(keys[i-1]) >= string(key) {
			return false
		}
	}
	for _, p := range n.Pairs {
		if len(p.Val) > 24 {
			return false
		}
	}
	for _, kid := range n.Kids {
		if !plainIsKid(kid) {
			return false
		}
	}
	if n.Leaf {
		return len(keys) <= 255 && len(n.Keys) == 0 && len(n.Kids) == 0
	}
	return len(keys) >= 1 && len(keys) <= 255 && len(n.Kids) == len(keys)+1 && len(n.Pairs) == 0
}

// plainBytes is the bytes of a node that may be.
func plainBytes(n api.Node) []byte {
	b := []byte{byte(len(keysOf(n)))}
	if !n.Leaf {
		b = append(b, byte(n.Kids[0]/256), byte(n.Kids[0]%256))
	}
	for i, key := range keysOf(n) {
		b = append(b, byte(len(key)))
		b = append(b, key...)
		if n.Leaf {
			b = append(b, byte(len(n.Pairs[i].Val)))
			b = append(b, n.Pairs[i].Val...)
		} else {
			b = append(b, byte(n.Kids[i+1]/256), byte(n.Kids[i+1]%256))
		}
	}
	return b
}

func plainSize(n api.Node) int {
	if !plainMayBe(n) {
		return 0
	}
	return len(plainBytes(n))
}

func plainCheck(n api.Node) api.Errno {
	switch {
	case !plainMayBe(n):
		return api.ErrNode
	case len(plainBytes(n)) > 240:
		return api.ErrLong
	}
	return api.OK
}

func plainPut(n api.Node) (int, []byte, api.Errno) {
	if e := plainCheck(n); e != api.OK {
		return 0, nil, e
	}
	b := plainBytes(n)
	for len(b) < 240 {
		b = append(b, 0)
	}
	if n.Leaf {
		return 3, b, api.OK
	}
	return 4, b, api.OK
}

// walk takes bytes one behind the other; where fewer are left it has come to nothing.
type walk struct {
	b   []byte
	out bool
}

func (w *walk) take(n int) []byte {
	if w.out || n > len(w.b) {
		w.out = true
		return make([]byte, n)
	}
	taken := w.b[:n]
	w.b = w.b[n:]
	return bytes.Clone(taken)
}

func (w *walk) number() int { return int(w.take(1)[0]) }

func (w *walk) kid() int { return w.number()*256 + w.number() }

func plainGet(kind int, b []byte) (api.Node, api.Errno) {
	if kind != 3 && kind != 4 {
		return api.Node{}, api.ErrKind
	}
	w := &walk{b: b}
	n := api.Node{Leaf: kind == 3}
	count := w.number()
	if !n.Leaf {
		n.Kids = append(n.Kids, w.kid())
	}
	for range count {
		key := w.take(w.number())
		if n.Leaf {
			n.Pairs = append(n.Pairs, api.Pair{Key: key, Val: w.take(w.number())})
		} else {
			n.Keys, n.Kids = append(n.Keys, key), append(n.Kids, w.kid())
		}
	}
	if w.out || len(b) != 240 || !plainMayBe(n) || len(bytes.Trim(w.b, "\x00")) > 0 {
		return api.Node{}, api.ErrNode
	}
	return n, api.OK
}

func plainSame(a, b api.Node) bool {
	if a.Leaf != b.Leaf || len(a.Pairs) != len(b.Pairs) || len(a.Keys) != len(b.Keys) || len(a.Kids) != len(b.Kids) {
		return false
	}
	for i := range a.Pairs {
		if string(a.Pairs[i].Key) != string(b.Pairs[i].Key) || string(a.Pairs[i].Val) != string(b.Pairs[i].Val) {
			return false
		}
	}
	for i := range a.Keys {
		if string(a.Keys[i]) != string(b.Keys[i]) {
			return false
		}
	}
	for i := range a.Kids {
		if a.Kids[i] != b.Kids[i] {
			return false
		}
	}
	return true
}

// plainFind counts the keys ahead of key one by one.
func plainFind(n api.Node, key []byte) (int, bool) {
	if !n.Leaf || !plainMayBe(n) {
		return 0, false
	}
	i, is := 0, false
	for _, p := range n.Pairs {
		if string(p.Key) < string(key) {
			i++
		}
		is = is || string(p.Key) == string(key)
	}
	return i, is
}

func plainKid(n api.Node, key []byte) int {
	if n.Leaf || !plainMayBe(n) {
		return 0
	}
	i := 0
	for _, k := range n.Keys {
		if string(k) <= string(key) {
			i++
		}
	}
	return i
}

// ifItMayBe is n, or ErrNode.
func ifItMayBe(n api.Node) (api.Node, api.Errno) {
	if !plainMayBe(n) {
		return api.Node{}, api.ErrNode
	}
	return n, api.OK
}

// plainSet puts the pair behind all others, and sorts them.
func plainSet(n api.Node, key, val []byte) (api.Node, api.Errno) {
	if !n.Leaf || !plainMayBe(n) {
		return api.Node{}, api.ErrNode
	}
	if !plainIsKey(key) || len(val) > 24 {
		return api.Node{}, api.ErrArg
	}
	out := api.Node{Leaf: true}
	for _, p := range n.Pairs {
		if string(p.Key) != string(key) {
			out.Pairs = append(out.Pairs, p)
		}
	}
	out.Pairs = append(out.Pairs, api.Pair{Key: key, Val: val})
	slices.SortFunc(out.Pairs, func(a, b api.Pair) int { return bytes.Compare(a.Key, b.Key) })
	return ifItMayBe(copyOf(out))
}

func plainUnset(n api.Node, key []byte) (api.Node, api.Errno) {
	if !n.Leaf || !plainMayBe(n) {
		return api.Node{}, api.ErrNode
	}
	out := api.Node{Leaf: true}
	for _, p := range n.Pairs {
		if string(p.Key) != string(key) {
			out.Pairs = append(out.Pairs, p)
		}
	}
	if len(out.Pairs) == len(n.Pairs) {
		return api.Node{}, api.ErrNone
	}
	return copyOf(out), api.OK
}

func plainTurn(n api.Node, i, kid int) (api.Node, api.Errno) {
	if n.Leaf || !plainMayBe(n) {
		return api.Node{}, api.ErrNode
	}
	if i < 0 || i >= len(n.Kids) || !plainIsKid(kid) {
		return api.Node{}, api.ErrArg
	}
	out := copyOf(n)
	out.Kids[i] = kid
	return out, api.OK
}

func plainGrow(n api.Node, i int, key []byte, kid int) (api.Node, api.Errno) {
	if n.Leaf || !plainMayBe(n) {
		return api.Node{}, api.ErrNode
	}
	if i < 0 || i >= len(n.Kids) || !plainIsKid(kid) || !plainIsKey(key) {
		return api.Node{}, api.ErrArg
	}
	var out api.Node
	for j, old := range n.Kids {
		out.Kids = append(out.Kids, old)
		if j == i {
			out.Keys, out.Kids = append(out.Keys, key), append(out.Kids, kid)
		}
		if j < len(n.Keys) {
			out.Keys = append(out.Keys, n.Keys[j])
		}
	}
	return ifItMayBe(copyOf(out))
}

func plainShrink(n api.Node, i int) (api.Node, api.Errno) {
	if n.Leaf || !plainMayBe(n) {
		return api.Node{}, api.ErrNode
	}
	if i < 0 || i >= len(n.Keys) {
		return api.Node{}, api.ErrArg
	}
	out := api.Node{Kids: []int{n.Kids[0]}}
	for j, key := range n.Keys {
		if j != i {
			out.Keys, out.Kids = append(out.Keys, key), append(out.Kids, n.Kids[j+1])
		}
	}
	return ifItMayBe(copyOf(out))
}

// plainHalves is n cut at a place where it may be.
func plainHalves(n api.Node, i int) (api.Node, []byte, api.Node) {
	c := copyOf(n)
	if n.Leaf {
		return api.Node{Leaf: true, Pairs: c.Pairs[:i]}, bytes.Clone(n.Pairs[i].Key), api.Node{Leaf: true, Pairs: c.Pairs[i:]}
	}
	return api.Node{Keys: c.Keys[:i], Kids: c.Kids[:i+1]}, c.Keys[i], api.Node{Keys: c.Keys[i+1:], Kids: c.Kids[i+1:]}
}

// plainPlaces is how many places there are, from 1 on.
func plainPlaces(n api.Node) int {
	if n.Leaf {
		return max(len(n.Pairs)-1, 0)
	}
	return max(len(n.Keys)-2, 0)
}

// plainCut goes through all places, from the last one on, and makes both halves at each.
func plainCut(n api.Node) (api.Node, []byte, api.Node, api.Errno) {
	if !plainMayBe(n) {
		return api.Node{}, nil, api.Node{}, api.ErrNode
	}
	best, least := 0, 1<<30
	for i := plainPlaces(n); i >= 1; i-- {
		a, _, b := plainHalves(n, i)
		apart := plainSize(a) - plainSize(b)
		if apart < 0 {
			apart = -apart
		}
		if apart <= least {
			best, least = i, apart
		}
	}
	if best == 0 {
		return api.Node{}, nil, api.Node{}, api.ErrNone
	}
	a, key, b := plainHalves(n, best)
	return a, key, b, api.OK
}

func plainJoin(a api.Node, key []byte, b api.Node) (api.Node, api.Errno) {
	if !plainMayBe(a) || !plainMayBe(b) || a.Leaf != b.Leaf {
		return api.Node{}, api.ErrNode
	}
	out, more := copyOf(a), copyOf(b)
	if a.Leaf {
		out.Pairs = append(out.Pairs, more.Pairs...)
		return ifItMayBe(out)
	}
	if !plainIsKey(key) {
		return api.Node{}, api.ErrArg
	}
	out.Keys = append(append(out.Keys, bytes.Clone(key)), more.Keys...)
	out.Kids = append(out.Kids, more.Kids...)
	return ifItMayBe(out)
}

// copyOf is a node in memory of its own.
func copyOf(n api.Node) api.Node {
	c := api.Node{Leaf: n.Leaf}
	for _, p := range n.Pairs {
		c.Pairs = append(c.Pairs, api.Pair{Key: append([]byte{}, p.Key...), Val: append([]byte{}, p.Val...)})
	}
	for _, key := range n.Keys {
		c.Keys = append(c.Keys, append([]byte{}, key...))
	}
	c.Kids = append(c.Kids, n.Kids...)
	return c
}

// brief is how a text begins, and how long it is.
func brief(b []byte) string { return fmt.Sprintf("%q (%d)", b[:min(len(b), 5)], len(b)) }

func wantErr(t *testing.T, what string, got, want api.Errno) {
	t.Helper()
	if got != want {
		t.Fatalf("%s answers error %d, not %d", what, int(got), int(want))
	}
}

func wantBytes(t *testing.T, what string, got, want []byte) {
	t.Helper()
	if !bytes.Equal(got, want) {
		t.Fatalf("%s: %v, not %v", what, got, want)
	}
}

func wantNode(t *testing.T, what string, got, want api.Node) {
	t.Helper()
	if !plainSame(got, want) {
		t.Fatalf("%s: %v, not %v", what, got, want)
	}
}

// wantAnswer asks for a node, or an error and nothing beside it.
func wantAnswer(t *testing.T, what string, got api.Node, e api.Errno, want api.Node, wantE api.Errno) {
	t.Helper()
	wantErr(t, what, e, wantE)
	wantNode(t, what, got, want)
}
