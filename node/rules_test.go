package node_test

import (
	"bytes"
	"testing"

	"incipit/api"
	"incipit/node"
)

// scribbleText writes over a text, and over what room it has behind it.
func scribbleText(b []byte) {
	b = b[:cap(b)]
	for i := range b {
		b[i] ^= 0x5a
	}
}

// scribble writes over all of a node's memory, with what room its lists have behind them.
func scribble(n api.Node) {
	for i := range n.Pairs[:cap(n.Pairs)] {
		p := &n.Pairs[:cap(n.Pairs)][i]
		scribbleText(p.Key)
		scribbleText(p.Val)
		*p = api.Pair{Key: []byte("scribble")}
	}
	for i := range n.Keys[:cap(n.Keys)] {
		k := &n.Keys[:cap(n.Keys)][i]
		scribbleText(*k)
		*k = []byte("scribble")
	}
	for i := range n.Kids[:cap(n.Kids)] {
		n.Kids[:cap(n.Kids)][i] = -77
	}
}

// roomyText is a text with room behind it, in which something stands.
func roomyText(b []byte) []byte {
	whole := append(append(make([]byte, 0, len(b)+40), b...), bytes.Repeat([]byte{0xee}, 40)...)
	return whole[:len(b)]
}

// roomy is a node of which each list and text has such room.
func roomy(n api.Node) api.Node {
	c := api.Node{Leaf: n.Leaf}
	for _, p := range n.Pairs {
		c.Pairs = append(c.Pairs, api.Pair{Key: roomyText(p.Key), Val: roomyText(p.Val)})
	}
	for _, k := range n.Keys {
		c.Keys = append(c.Keys, roomyText(k))
	}
	c.Pairs = append(c.Pairs, api.Pair{Key: []byte("room")}, api.Pair{Val: []byte("room")})[:len(n.Pairs)]
	c.Keys = append(c.Keys, []byte("room"), []byte("room"))[:len(n.Keys)]
	c.Kids = append(append(c.Kids, n.Kids...), -3, -4, -5)[:len(n.Kids)]
	return c
}

// whole is a copy of a node and of all that stands in its room.
func whole(n api.Node) api.Node {
	wide := api.Node{Leaf: n.Leaf, Kids: n.Kids[:cap(n.Kids)]}
	for _, p := range n.Pairs[:cap(n.Pairs)] {
		wide.Pairs = append(wide.Pairs, api.Pair{Key: p.Key[:cap(p.Key)], Val: p.Val[:cap(p.Val)]})
	}
	for _, k := range n.Keys[:cap(n.Keys)] {
		wide.Keys = append(wide.Keys, k[:cap(k)])
	}
	return copyOf(wide)
}

// given is what calls are handed; told what they answer.
type given struct {
	a, b          api.Node
	key, val, bin []byte
	kind, i, kid  int
}

type told struct {
	nodes []api.Node
	texts [][]byte
}

// calls are those that answer memory, by their names.
func calls() map[string]func(g given) told {
	one := func(n api.Node, _ api.Errno) told { return told{nodes: []api.Node{n}} }
	return map[string]func(g given) told{
		"Clone":  func(g given) told { return told{nodes: []api.Node{node.Clone(g.a)}} },
		"Put":    func(g given) told { _, b, _ := node.Put(g.a); return told{texts: [][]byte{b}} },
		"Get":    func(g given) told { return one(node.Get(g.kind, g.bin)) },
		"All":    func(g given) told { return told{nodes: []api.Node{collect(node.All(g.a))}} },
		"Set":    func(g given) told { return one(node.Set(g.a, g.key, g.val)) },
		"Unset":  func(g given) told { return one(node.Unset(g.a, g.key)) },
		"Turn":   func(g given) told { return one(node.Turn(g.a, g.i, g.kid)) },
		"Grow":   func(g given) told { return one(node.Grow(g.a, g.i, g.key, g.kid)) },
		"Shrink": func(g given) told { return one(node.Shrink(g.a, g.i)) },
		"Join":   func(g given) told { return one(node.Join(g.a, g.key, g.b)) },
		"Cut": func(g given) told {
			a, k, b, _ := node.Cut(g.a)
			return told{nodes: []api.Node{a, b}, texts: [][]byte{k}}
		},
		"the others": func(g given) told {
			node.Check(g.a)
			node.Size(g.a)
			node.Same(g.a, g.b)
			node.Find(g.a, g.key)
			node.Kid(g.a, g.key)
			return told{}
		},
	}
}

// manyGiven is what calls are handed, so that each of them is OK for some.
func manyGiven() []given {
	leaf, inner := leafOf("a", "1", "c", "22", "e", "", "g", "4444"), innerOf(5, "a", "c", "e", "g")
	var l []given
	for _, g := range []given{
		{a: leaf, b: leafOf("h", "1", "i", "2")},
		{a: leaf, b: api.Node{Leaf: true}},
		{a: api.Node{Leaf: true}, b: leaf},
		{a: leaf, b: inner},
		{a: inner, b: innerOf(50, "j", "k")},
		{a: leafOfSize(240), b: leafOf("h", "1")},
		{a: innerOfSize(241), b: innerOf(50, "j", "k")},
		{a: leafOf("b", "", "a", ""), b: leaf},
	} {
		g.kind, g.bin, _ = node.Put(g.a)
		for _, k := range []string{"", "a", "b", "c", "h", "zz"} {
			for i := -1; i < 6; i++ {
				g.key, g.val, g.i, g.kid = []byte(k), []byte("val"), i, 77
				l = append(l, g)
			}
		}
	}
	return l
}

// roomyGiven is g with room behind all that it has.
func roomyGiven(g given) given {
	g.a, g.b = roomy(g.a), roomy(g.b)
	g.key, g.val, g.bin = roomyText(g.key), roomyText(g.val), roomyText(g.bin)
	return g
}

// wantGiven asks that all of g, and what stands in its room, is as in was.
func wantGiven(t *testing.T, what string, g, was given) {
	t.Helper()
	wantNode(t, what+": the first node", whole(g.a), whole(was.a))
	wantNode(t, what+": the second node", whole(g.b), whole(was.b))
	for i, b := range [][]byte{g.key, g.val, g.bin} {
		w := [][]byte{was.key, was.val, was.bin}[i]
		wantBytes(t, what+": a text", b[:cap(b)], w[:cap(w)])
	}
}

// R3: what is handed in is left as it is, by each call, and by whoever changes what was answered.
func TestWhatIsHandedInIsLeft(t *testing.T) {
	for name, call := range calls() {
		for _, g := range manyGiven() {
			g, was := roomyGiven(g), roomyGiven(g)
			out := call(g)
			wantGiven(t, name, g, was)
			scribbleTold(out)
			wantGiven(t, name+", whose answer was changed", g, was)
		}
	}
}

func scribbleTold(out told) {
	for _, n := range out.nodes {
		scribble(n)
	}
	for _, b := range out.texts {
		scribbleText(b)
	}
}

// R3: what was answered is as it was, whatever is done with what was handed in.
func TestWhatIsAnsweredIsNobodysElse(t *testing.T) {
	for name, call := range calls() {
		for _, g := range manyGiven() {
			g = roomyGiven(g)
			out := call(g)
			was := copyOfTold(out)
			scribble(g.a)
			scribble(g.b)
			for _, b := range [][]byte{g.key, g.val, g.bin} {
				scribbleText(b)
			}
			wantTold(t, name, out, was)
		}
	}
}

func copyOfTold(out told) told {
	var c told
	for _, n := range out.nodes {
		c.nodes = append(c.nodes, copyOf(n))
	}
	for _, b := range out.texts {
		c.texts = append(c.texts, bytes.Clone(b))
	}
	return c
}

func wantTold(t *testing.T, what string, got, want told) {
	t.Helper()
	for i := range want.nodes {
		wantNode(t, what, got.nodes[i], want.nodes[i])
	}
	for i := range want.texts {
		wantBytes(t, what, got.texts[i], want.texts[i])
	}
}

// textsOf is all texts of an answer, as they stand.
func textsOf(out told) [][]byte {
	l := append([][]byte{}, out.texts...)
	for _, n := range out.nodes {
		for _, p := range n.Pairs {
			l = append(l, p.Key, p.Val)
		}
		l = append(l, n.Keys...)
	}
	return l
}

// R3: no two texts of an answer share memory: what is written over one, or grows behind it, is not seen in another.
func TestTextsOfAnAnswerShareNothing(t *testing.T) {
	for name, call := range calls() {
		for _, g := range manyGiven() {
			out := call(g)
			texts := textsOf(out)
			for i := range texts {
				was := copyOfTold(told{texts: texts}).texts
				_ = append(texts[i], "grown behind it"...)
				scribbleText(texts[i])
				for j := range texts {
					if j != i {
						wantBytes(t, name+": another text", texts[j], was[j])
					}
				}
			}
		}
	}
}

// R3: the halves' lists share nothing: what grows behind the first is not seen in the second.
func TestHalvesShareNothing(t *testing.T) {
	for _, n := range []api.Node{leafWith(9, 3, 2), innerWith(9, 3)} {
		a, k, b, e := node.Cut(n)
		wantErr(t, "Cut", e, api.OK)
		wasKey, wasB, was := bytes.Clone(k), copyOf(b), copyOf(n)
		a.Pairs = append(a.Pairs, api.Pair{Key: []byte("grown")})
		a.Keys = append(a.Keys, []byte("grown"))
		a.Kids = append(a.Kids, -1, -2)
		scribble(a)
		wantBytes(t, "the key", k, wasKey)
		wantNode(t, "the second half", b, wasB)
		scribbleText(k)
		wantNode(t, "the second half behind a change of the key", b, wasB)
		wantNode(t, "the node", n, was)
	}
}

// R2: beside an error stands nothing.
func TestNothingBesideAnError(t *testing.T) {
	for _, bad := range badNodes() {
		kind, b, e := node.Put(bad.n)
		if kind != 0 || b != nil || e != api.ErrNode {
			t.Errorf("Put of %s answers %d, %v, %d", bad.what, kind, b, int(e))
		}
		x, k, y, e := node.Cut(bad.n)
		wantAnswer(t, "Cut of "+bad.what, x, e, api.Node{}, api.ErrNode)
		wantNode(t, "Cut of "+bad.what, y, api.Node{})
		if k != nil {
			t.Errorf("Cut of %s answers the key %v", bad.what, k)
		}
	}
	for _, n := range []api.Node{leafOfSize(241), innerOfSize(241)} {
		if kind, b, e := node.Put(n); kind != 0 || b != nil || e != api.ErrLong {
			t.Errorf("Put answers %d, %v, %d", kind, b, int(e))
		}
	}
}

// R4: empty and nil lists are the same to each call.
func TestEmptyAndNil(t *testing.T) {
	for _, pair := range [][2]api.Node{
		{leafOf("a", "", "b", ""), {Leaf: true, Pairs: []api.Pair{{Key: []byte("a")}, {Key: []byte("b")}}, Keys: [][]byte{}, Kids: []int{}}},
		{innerOf(5, "a", "b", "c"), {Pairs: []api.Pair{}, Keys: [][]byte{{'a'}, {'b'}, {'c'}}, Kids: []int{5, 6, 7, 8}}},
		{{Leaf: true}, {Leaf: true, Pairs: []api.Pair{}, Keys: [][]byte{}, Kids: []int{}}},
		{{}, {Pairs: []api.Pair{}, Keys: [][]byte{}, Kids: []int{}}},
	} {
		wantErr(t, "Check", node.Check(pair[0]), node.Check(pair[1]))
		wantSame(t, "Same", pair[0], pair[1], true)
		for name, call := range calls() {
			for _, g := range manyGiven() {
				g.a = pair[0]
				was := call(g)
				g.a = pair[1]
				wantTold(t, name, call(g), was)
				if len(g.key) == 0 {
					g.key = nil
					wantTold(t, name+" of a nil key", call(g), was)
				}
			}
		}
	}
}

// R6: the same calls answer the same.
func TestTheSameCallsAnswerTheSame(t *testing.T) {
	for name, call := range calls() {
		for _, g := range manyGiven() {
			was := copyOfTold(call(g))
			for range 2 {
				wantTold(t, name, call(g), was)
			}
		}
	}
}

// THE BOUND: the greatest node, and what is far greater and may not be, are gone through in no time.
func TestGreatNodes(t *testing.T) {
	great := leafWith(60_000, 25, 24)
	wide := innerWith(60_000, 25)
	for range 50 {
		for _, n := range []api.Node{great, wide} {
			wantErr(t, "Check", node.Check(n), api.ErrNode)
			wantCut(t, "a node that is too great", n)
		}
	}
	for range 200 {
		_, _, _, e := node.Cut(leafWith(255, 25, 24))
		wantErr(t, "Cut", e, api.OK)
		_, _, _, e = node.Cut(innerWith(255, 25))
		wantErr(t, "Cut", e, api.OK)
	}
}
