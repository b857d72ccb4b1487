package node_test

import (
	"bytes"
	"fmt"
	"testing"

	"incipit/api"
	"incipit/node"
)

// P10.1: a node that may be, and fits, or does not: OK, or ErrLong, and its size in either case.
func TestCheckOfNodesThatMayBe(t *testing.T) {
	for _, g := range goodNodes() {
		if !plainMayBe(g.n) {
			t.Fatal(g.what, "may not be")
		}
		wantErr(t, "Check of "+g.what, node.Check(g.n), plainCheck(g.n))
		if got, want := node.Size(g.n), plainSize(g.n); got != want {
			t.Errorf("%s: Size is %d, not %d", g.what, got, want)
		}
	}
}

// P10.1: a node that may not be: ErrNode, and no size.
func TestCheckOfNodesThatMayNotBe(t *testing.T) {
	for _, b := range badNodes() {
		wantErr(t, "Check of "+b.what, node.Check(b.n), api.ErrNode)
		if got := node.Size(b.n); got != 0 {
			t.Errorf("%s: Size is %d", b.what, got)
		}
	}
}

// P10.1: the edge of what fits, byte by byte.
func TestWhatFits(t *testing.T) {
	for size := 8; size <= 600; size++ {
		want := api.OK
		if size > 240 {
			want = api.ErrLong
		}
		for _, n := range []api.Node{leafOfSize(size), innerOfSize(size)} {
			wantErr(t, fmt.Sprint("Check of bytes: ", size), node.Check(n), want)
			if got := node.Size(n); got != size {
				t.Fatalf("Size is %d, not %d", got, size)
			}
		}
	}
}

// P10.1: sizes by hand: one byte of how many, and each pair's, or key's and child's, own.
func TestSizesByHand(t *testing.T) {
	for _, c := range []struct {
		n    api.Node
		want int
	}{
		{api.Node{Leaf: true}, 1},
		{leafOf("a", ""), 4},
		{leafOf("a", "\x07", "b", ""), 8},
		{leafOf("abc", "de"), 8},
		{leafWith(255, 25, 24), 1 + 255*51},
		{innerOf(5, "b"), 7},
		{innerOf(5, "b", "ccc"), 13},
		{innerWith(255, 25), 3 + 255*28},
		{leafWith(80, 1, 0), 241},
		{innerWith(59, 1), 239},
	} {
		if got := node.Size(c.n); got != c.want {
			t.Errorf("Size of %v is %d, not %d", c.n, got, c.want)
		}
	}
}

// P10.1: ErrNode stands ahead of ErrLong.
func TestNodeStandsAheadOfLong(t *testing.T) {
	great := leafWith(255, 25, 24)
	great.Pairs[254].Key = great.Pairs[253].Key
	wantErr(t, "a great leaf with a key twice", node.Check(great), api.ErrNode)
	inner := innerWith(255, 25)
	inner.Kids[255] = 1
	wantErr(t, "a great inner node with no child", node.Check(inner), api.ErrNode)
	inner.Kids[255], inner.Leaf = 2, true
	wantErr(t, "a great inner node as a leaf", node.Check(inner), api.ErrNode)
}

// wantSame asks both ways round.
func wantSame(t *testing.T, what string, a, b api.Node, want bool) {
	t.Helper()
	if node.Same(a, b) != want || node.Same(b, a) != want {
		t.Errorf("%s: Same is not %v", what, want)
	}
}

// P10.1: nodes are the same as themselves, and as copies; all of the list differ from each other just where the words say so.
func TestSame(t *testing.T) {
	all := allNodes()
	for _, a := range all {
		wantSame(t, a.what, a.n, a.n, true)
		wantSame(t, a.what+", copied", a.n, copyOf(a.n), true)
		for _, b := range all {
			if got, want := node.Same(a.n, b.n), plainSame(a.n, b.n); got != want {
				t.Errorf("%s and %s: Same is %v", a.what, b.what, got)
			}
		}
	}
}

// P10.1: one thing alone makes a node another one: each byte, each length, each child, each list's end.
func TestSameButForOneThing(t *testing.T) {
	leaf := leafOf("a", "12", "bcd", "", "c", "3")
	for i := range leaf.Pairs {
		for _, turn := range []func(p *api.Pair){
			func(p *api.Pair) { p.Key[len(p.Key)-1] ^= 1 },
			func(p *api.Pair) { p.Key[0] ^= 128 },
			func(p *api.Pair) { p.Key = append(p.Key, 0) },
			func(p *api.Pair) { p.Key = p.Key[:len(p.Key)-1] },
			func(p *api.Pair) { p.Val = append(p.Val, 0) },
			func(p *api.Pair) { p.Key, p.Val = p.Val, p.Key },
		} {
			other := copyOf(leaf)
			turn(&other.Pairs[i])
			wantSame(t, fmt.Sprint("pair ", i), leaf, other, false)
		}
		other := copyOf(leaf)
		other.Pairs = append(other.Pairs[:i], other.Pairs[i+1:]...)
		wantSame(t, fmt.Sprint("without pair ", i), leaf, other, false)
	}
	other := copyOf(leaf)
	other.Pairs[0].Val[1] = 0
	wantSame(t, "a value's byte", leaf, other, false)
	inner := innerOf(5, "a", "bcd", "c")
	for i := range inner.Keys {
		other := copyOf(inner)
		other.Keys[i][0] ^= 1
		wantSame(t, fmt.Sprint("key ", i), inner, other, false)
		other.Keys[i] = append(bytes.Clone(inner.Keys[i]), 0)
		wantSame(t, fmt.Sprint("a longer key ", i), inner, other, false)
	}
	for i := range inner.Kids {
		other := copyOf(inner)
		other.Kids[i]++
		wantSame(t, fmt.Sprint("child ", i), inner, other, false)
	}
}

// P10.1, R4: empty and nil are the same, in each list and each text; a leaf is no inner node.
func TestSameOfNilAndEmpty(t *testing.T) {
	empty := api.Node{Pairs: []api.Pair{}, Keys: [][]byte{}, Kids: []int{}}
	wantSame(t, "lists", api.Node{}, empty, true)
	wantSame(t, "leaf", api.Node{}, api.Node{Leaf: true}, false)
	empty.Leaf = true
	wantSame(t, "a leaf's lists", api.Node{Leaf: true}, empty, true)
	wantSame(t, "texts", api.Node{Pairs: []api.Pair{{}}}, api.Node{Pairs: []api.Pair{{Key: []byte{}, Val: []byte{}}}}, true)
	wantSame(t, "keys", api.Node{Keys: [][]byte{nil}}, api.Node{Keys: [][]byte{{}}}, true)
	wantSame(t, "no key and an empty one", api.Node{}, api.Node{Keys: [][]byte{nil}}, false)
	wantSame(t, "no pair and an empty one", api.Node{}, api.Node{Pairs: []api.Pair{{}}}, false)
	wantSame(t, "no child and 0", api.Node{}, api.Node{Kids: []int{0}}, false)
}

// P10.1: a clone is the same, whatever the node is, and either may be changed alone.
func TestClone(t *testing.T) {
	for _, a := range allNodes() {
		n, was := copyOf(a.n), copyOf(a.n)
		c := node.Clone(n)
		wantNode(t, "Clone of "+a.what, c, was)
		scribble(c)
		wantNode(t, a.what+", whose clone was changed", n, was)
		c = node.Clone(n)
		scribble(n)
		wantNode(t, "the clone of "+a.what+", which was changed", c, was)
	}
}

// P10.1: drawn nodes, and such ones with something wrong, have the Check and Size of the words.
func TestCheckOfDrawnNodes(t *testing.T) {
	r := draws(1)
	met := map[api.Errno]int{}
	for range 20_000 {
		n := r.node(1 + r.below(40))
		r.spoil(&n)
		e := node.Check(n)
		wantErr(t, fmt.Sprintf("Check of %v", n), e, plainCheck(n))
		if got, want := node.Size(n), plainSize(n); got != want {
			t.Fatalf("Size of %v is %d, not %d", n, got, want)
		}
		met[e]++
	}
	for _, e := range []api.Errno{api.OK, api.ErrNode, api.ErrLong} {
		if met[e] < 500 {
			t.Error("the rule draws too few of error", int(e), met[e])
		}
	}
}

// spoil changes now and then one thing about a node.
func (r *draws) spoil(n *api.Node) {
	switch r.below(14) {
	case 0:
		n.Leaf = !n.Leaf
	case 1:
		n.Kids = append(n.Kids, r.kid())
	case 2:
		n.Keys = append(n.Keys, r.text(0, 27))
	case 3:
		n.Pairs = append(n.Pairs, api.Pair{Key: r.text(0, 27), Val: r.text(0, 27)})
	case 4:
		if len(n.Kids) > 0 {
			n.Kids[r.below(len(n.Kids))] = r.below(2100) - 10
		}
	case 5:
		if len(n.Keys) > 0 {
			n.Keys[r.below(len(n.Keys))] = r.text(0, 27)
		}
	case 6:
		if len(n.Pairs) > 0 {
			n.Pairs[r.below(len(n.Pairs))] = api.Pair{Key: r.text(0, 27), Val: r.text(0, 27)}
		}
	}
}
