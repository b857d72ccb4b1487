package node_test

import (
	"bytes"
	"fmt"
	"testing"

	"incipit/api"
	"incipit/node"
)

// wantCut asks for the halves and the key of going through all places, and answers whether there was any.
func wantCut(t *testing.T, what string, n api.Node) api.Errno {
	t.Helper()
	a, k, b, e := node.Cut(n)
	wantA, wantK, wantB, wantE := plainCut(n)
	wantErr(t, "Cut of "+what, e, wantE)
	wantNode(t, "the first half of "+what, a, wantA)
	wantBytes(t, "the key of "+what, k, wantK)
	wantNode(t, "the second half of "+what, b, wantB)
	return e
}

// P10.5: all nodes, those that may not be among them.
func TestCut(t *testing.T) {
	met := map[api.Errno]int{}
	for _, a := range allNodes() {
		met[wantCut(t, a.what, a.n)]++
	}
	for _, e := range []api.Errno{api.OK, api.ErrNone, api.ErrNode} {
		if met[e] < 3 {
			t.Error("too few of error", int(e), met[e])
		}
	}
}

// P10.5: nodes with no place are ErrNone, with one or two they are cut there.
func TestCutOfFewPlaces(t *testing.T) {
	for _, n := range []api.Node{{Leaf: true}, leafOf("a", "1"), leafWith(1, 25, 24), innerOf(5, "a"), innerOf(5, "a", "b"), innerWith(2, 25)} {
		a, k, b, e := node.Cut(n)
		wantErr(t, "Cut", e, api.ErrNone)
		if k != nil || !plainSame(a, api.Node{}) || !plainSame(b, api.Node{}) {
			t.Errorf("Cut answers %v, %v, %v beside an error", a, k, b)
		}
	}
	wantHalves(t, leafOf("a", "1", "b", "2"), leafOf("a", "1"), "b", leafOf("b", "2"))
	wantHalves(t, leafOf("a", string(make([]byte, 24)), "b", ""), leafOf("a", string(make([]byte, 24))), "b", leafOf("b", ""))
	wantHalves(t, innerOf(5, "a", "b", "c"), innerOf(5, "a"), "b", innerOf(7, "c"))
	long := string(bytes.Repeat([]byte("a"), 25))
	wantHalves(t, innerOf(5, long, "b", "c"), innerOf(5, long), "b", innerOf(7, "c"))
}

// wantHalves asks for a cut by hand.
func wantHalves(t *testing.T, n, first api.Node, k string, second api.Node) {
	t.Helper()
	a, got, b, e := node.Cut(n)
	wantErr(t, "Cut", e, api.OK)
	wantNode(t, "the first half", a, first)
	wantBytes(t, "the key", got, []byte(k))
	wantNode(t, "the second half", b, second)
}

// P10.5: of several places that are as good, the first.
func TestCutWhereSeveralAreAsGood(t *testing.T) {
	wantHalves(t, leafOf("a", "", "b", "", "c", ""), leafOf("a", ""), "b", leafOf("b", "", "c", ""))
	wantHalves(t, leafOf("a", "", "b", "12345", "c", ""), leafOf("a", ""), "b", leafOf("b", "12345", "c", ""))
	wantHalves(t, leafWith(5, 2, 3), leafWith(2, 2, 3), string(key(2, 2)), api.Node{Leaf: true, Pairs: leafWith(5, 2, 3).Pairs[2:]})
	wantHalves(t, innerOf(5, "a", "b", "c", "d"), innerOf(5, "a"), "b", innerOf(7, "c", "d"))
	wantHalves(t, innerOf(5, "a", "bbb", "ccc", "d"), innerOf(5, "a"), "bbb", innerOf(7, "ccc", "d"))
	// 10 | 4 4 10 by the first place, 10 4 | 4 10 by the second, which is better.
	wantHalves(t, leafOf("a", "1234567", "b", "1", "c", "1", "d", "1234567"), leafOf("a", "1234567", "b", "1"), "c", leafOf("c", "1", "d", "1234567"))
}

// P10.5: the place is where Sizes are least apart, not where there are as many pairs, or keys, on both sides.
func TestCutByBytes(t *testing.T) {
	big := string(make([]byte, 24))
	wantHalves(t, leafOf("a", big, "b", "", "c", "", "d", "", "e", ""), leafOf("a", big), "b", leafOf("b", "", "c", "", "d", "", "e", ""))
	wantHalves(t, leafOf("a", "", "b", "", "c", "", "d", "", "e", big), leafOf("a", "", "b", "", "c", "", "d", ""), "e", leafOf("e", big))
	long := string(bytes.Repeat([]byte("z"), 25))
	wantHalves(t, innerOf(5, "a", "b", "c", "d", long), innerOf(5, "a", "b", "c"), "d", innerOf(9, long))
	wantHalves(t, innerOf(5, "\x00"+long[1:], "b", "c", "d", "e"), innerOf(5, "\x00"+long[1:]), "b", innerOf(7, "c", "d", "e"))
	// A long key at which it is cut weighs on neither side.
	long = string(bytes.Repeat([]byte("c"), 25))
	wantHalves(t, innerOf(5, "a", "b", long, "d", "e", "f"), innerOf(5, "a", "b"), long, innerOf(8, "d", "e", "f"))
}

// P10.5: drawn nodes of all lengths, fitting or not, held against all places.
func TestCutOfDrawnNodes(t *testing.T) {
	r := draws(3)
	for range 3000 {
		n := r.node(1 + r.below(30))
		wantCut(t, fmt.Sprint(n), n)
	}
	for range 30 {
		n := r.node(255)
		wantCut(t, fmt.Sprint(n), n)
	}
}

// P10.5: Join of all nodes with all nodes, with keys and with what is none.
func TestJoin(t *testing.T) {
	met := map[api.Errno]int{}
	all := allNodes()
	for _, a := range all {
		for _, b := range all {
			for _, k := range [][]byte{nil, {}, {0}, []byte("c"), {255, 255, 255}, key(1, 25), key(1, 26), key(1, 300)} {
				got, e := node.Join(a.n, k, b.n)
				want, wantE := plainJoin(a.n, k, b.n)
				wantAnswer(t, fmt.Sprintf("Join of %s, %v, %s", a.what, k, b.what), got, e, want, wantE)
				met[e]++
			}
		}
	}
	for _, e := range []api.Errno{api.OK, api.ErrArg, api.ErrNode} {
		if met[e] < 50 {
			t.Error("too few of error", int(e), met[e])
		}
	}
}

// P10.5: leaves by hand; what key is makes no difference to them.
func TestJoinOfLeaves(t *testing.T) {
	a, b := leafOf("a", "1", "b", ""), leafOf("c", "3", "d", "4")
	empty := api.Node{Leaf: true}
	for _, k := range append(someTexts(), []byte("c"), []byte("zzz")) {
		got, e := node.Join(a, k, b)
		wantAnswer(t, "two leaves", got, e, leafOf("a", "1", "b", "", "c", "3", "d", "4"), api.OK)
		got, e = node.Join(b, k, a)
		wantAnswer(t, "turned round", got, e, api.Node{}, api.ErrNode)
		got, e = node.Join(a, k, a)
		wantAnswer(t, "with itself", got, e, api.Node{}, api.ErrNode)
		got, e = node.Join(a, k, leafOf("b", "", "c", ""))
		wantAnswer(t, "a key in both", got, e, api.Node{}, api.ErrNode)
		got, e = node.Join(a, k, empty)
		wantAnswer(t, "with the empty one", got, e, a, api.OK)
		got, e = node.Join(empty, k, b)
		wantAnswer(t, "of the empty one", got, e, b, api.OK)
		got, e = node.Join(empty, k, empty)
		wantAnswer(t, "two empty ones", got, e, empty, api.OK)
	}
}

// P10.5: inner nodes by hand; the key must stand between them.
func TestJoinOfInnerNodes(t *testing.T) {
	a, b := innerOf(5, "a", "b"), innerOf(8, "d")
	got, e := node.Join(a, []byte("c"), b)
	wantAnswer(t, "two inner nodes", got, e, innerOf(5, "a", "b", "c", "d"), api.OK)
	for _, k := range []string{"b\x00", "bzzz", "czz", string(bytes.Repeat([]byte("c"), 25))} {
		got, e := node.Join(a, []byte(k), b)
		wantAnswer(t, "by "+k, got, e, innerOf(5, "a", "b", k, "d"), api.OK)
	}
	for _, k := range []string{"\x00", "a", "aa", "b", "d", "dd", "z"} {
		got, e := node.Join(a, []byte(k), b)
		wantAnswer(t, "by "+k, got, e, api.Node{}, api.ErrNode)
	}
	for _, k := range [][]byte{nil, {}, bytes.Repeat([]byte("c"), 26), bytes.Repeat([]byte("c"), 300)} {
		got, e := node.Join(a, k, b)
		wantAnswer(t, fmt.Sprint("by ", k), got, e, api.Node{}, api.ErrArg)
		got, e = node.Join(b, k, a)
		wantAnswer(t, fmt.Sprint("turned round, by ", k), got, e, api.Node{}, api.ErrArg)
	}
	got, e = node.Join(b, []byte("c"), a)
	wantAnswer(t, "turned round", got, e, api.Node{}, api.ErrNode)
}

// P10.5: one of each, and nodes that may not be, are ErrNode, ahead of ErrArg.
func TestJoinOfWhatCantBe(t *testing.T) {
	leaf, inner := leafOf("a", "1"), innerOf(5, "d")
	for _, k := range [][]byte{nil, []byte("c"), key(1, 26)} {
		got, e := node.Join(leaf, k, inner)
		wantAnswer(t, "a leaf and an inner node", got, e, api.Node{}, api.ErrNode)
		got, e = node.Join(inner, k, leaf)
		wantAnswer(t, "an inner node and a leaf", got, e, api.Node{}, api.ErrNode)
		for _, bad := range badNodes() {
			for _, n := range []api.Node{leaf, inner, bad.n} {
				got, e = node.Join(n, k, bad.n)
				wantAnswer(t, "with "+bad.what, got, e, api.Node{}, api.ErrNode)
				got, e = node.Join(bad.n, k, n)
				wantAnswer(t, "of "+bad.what, got, e, api.Node{}, api.ErrNode)
			}
		}
	}
}

// P10.5: up to 255 pairs, or keys, may come of it; what comes of it need not fit.
func TestJoinUpTo255(t *testing.T) {
	leaf, inner := leafWith(256, 25, 24), innerWith(256, 25)
	for _, cut := range []int{0, 1, 2, 100, 127, 128, 200, 253, 254, 255, 256} {
		for _, all := range []int{254, 255, 256} {
			if cut > all || cut > 255 || all-cut > 255 {
				continue
			}
			a, b := api.Node{Leaf: true, Pairs: leaf.Pairs[:cut]}, api.Node{Leaf: true, Pairs: leaf.Pairs[cut:all]}
			got, e := node.Join(a, nil, b)
			want, wantE := ifItMayBe(leafWith(all, 25, 24))
			wantAnswer(t, fmt.Sprint("leaves: ", cut, " of ", all), got, e, want, wantE)
			if cut < 1 || cut > all-2 {
				continue
			}
			a, k, b := plainHalves(innerWith(all, 25), cut)
			got, e = node.Join(a, k, b)
			want, wantE = ifItMayBe(innerWith(all, 25))
			wantAnswer(t, fmt.Sprint("inner nodes: ", cut, " of ", all), got, e, want, wantE)
		}
	}
	wantErr(t, "256 keys", node.Check(inner), api.ErrNode)
}
