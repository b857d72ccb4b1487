package node_test

import (
	"bytes"
	"fmt"
	"math"
	"testing"

	"incipit/api"
	"incipit/frame"
	"incipit/node"
)

// wantPut asks for what Put answers to a node by the words.
func wantPut(t *testing.T, what string, n api.Node) {
	t.Helper()
	kind, b, e := node.Put(n)
	wantKind, want, wantE := plainPut(n)
	wantErr(t, "Put of "+what, e, wantE)
	if kind != wantKind {
		t.Fatalf("Put of %s: kind %d, not %d", what, kind, wantKind)
	}
	wantBytes(t, "Put of "+what, b, want)
	if e != api.OK && b != nil {
		t.Fatalf("Put of %s answers bytes beside an error", what)
	}
}

// wantGet asks for what Get answers by the words.
func wantGet(t *testing.T, what string, kind int, b []byte) api.Errno {
	t.Helper()
	got, e := node.Get(kind, b)
	want, wantE := plainGet(kind, b)
	wantAnswer(t, what, got, e, want, wantE)
	return e
}

// padded is bytes with noughts behind them, up to Payload.
func padded(b ...byte) []byte {
	return append(bytes.Clone(b), make([]byte, max(api.Payload-len(b), 0))...)
}

// P10.2: each node that may be, and each that may not.
func TestPut(t *testing.T) {
	for _, a := range allNodes() {
		wantPut(t, a.what, a.n)
	}
}

// P10.2: the bytes by hand, and noughts behind them.
func TestPutByHand(t *testing.T) {
	for _, c := range []struct {
		n    api.Node
		kind int
		want []byte
	}{
		{api.Node{Leaf: true}, api.KindLeaf, []byte{0}},
		{leafOf("a", ""), api.KindLeaf, []byte{1, 1, 97, 0}},
		{leafOf("a", "\x07", "b", ""), api.KindLeaf, []byte{2, 1, 97, 1, 7, 1, 98, 0}},
		{leafOf("\x00", "\x00\x00"), api.KindLeaf, []byte{1, 1, 0, 2, 0, 0}},
		{leafOf("ab", "xyz", "b\xff", ""), api.KindLeaf, []byte{2, 2, 97, 98, 3, 120, 121, 122, 2, 98, 255, 0}},
		{innerOf(5, "b"), api.KindInner, []byte{1, 0, 5, 1, 98, 0, 6}},
		{innerOf(255, "b", "cc"), api.KindInner, []byte{2, 0, 255, 1, 98, 1, 0, 2, 99, 99, 1, 1}},
		{api.Node{Keys: [][]byte{{0}}, Kids: []int{2047, 2}}, api.KindInner, []byte{1, 7, 255, 1, 0, 0, 2}},
	} {
		kind, b, e := node.Put(c.n)
		wantErr(t, "Put", e, api.OK)
		if kind != c.kind {
			t.Errorf("kind %d, not %d", kind, c.kind)
		}
		wantBytes(t, "Put", b, padded(c.want...))
		n, e := node.Get(c.kind, padded(c.want...))
		wantAnswer(t, "Get", n, e, c.n, api.OK)
	}
}

// P10.2: nodes of just Payload bytes leave no room for a nought, and of one more are ErrLong.
func TestPutUpToPayload(t *testing.T) {
	for size := 8; size <= 260; size++ {
		wantPut(t, fmt.Sprint("a leaf of bytes: ", size), leafOfSize(size))
		wantPut(t, fmt.Sprint("an inner node of bytes: ", size), innerOfSize(size))
	}
	for _, n := range []api.Node{leafOfSize(240), innerOfSize(240)} {
		_, b, e := node.Put(n)
		wantErr(t, "Put", e, api.OK)
		wantBytes(t, "Put", b, plainBytes(n))
	}
}

// P10.2: any other kind is ErrKind, whatever the bytes are.
func TestGetOfKinds(t *testing.T) {
	kinds := []int{math.MinInt, -1<<32 + 3, -253, -4, -3, -1, 256, 256 + 3, 256 + 4, 1<<16 + 3, 1<<32 + 3, 1<<32 + 4, math.MaxInt}
	for kind := range 256 {
		kinds = append(kinds, kind)
	}
	_, leaf, _ := node.Put(leafOf("a", "7"))
	_, inner, _ := node.Put(innerOf(5, "b"))
	for _, b := range [][]byte{nil, {}, {1}, leaf, inner, make([]byte, 240), make([]byte, 256), leaf[:239]} {
		for _, kind := range kinds {
			e := wantGet(t, fmt.Sprint("Get of kind ", kind), kind, b)
			if isKind := kind == api.KindLeaf || kind == api.KindInner; isKind == (e == api.ErrKind) {
				t.Errorf("Get of kind %d answers %d", kind, int(e))
			}
		}
	}
}

// P10.2: shorter and longer bytes than Payload are no node's, also where the node itself is whole in them.
func TestGetOfOtherLengths(t *testing.T) {
	for _, g := range goodNodes() {
		kind, b, e := node.Put(g.n)
		if e != api.OK {
			continue
		}
		for n := range len(b) {
			wantErr(t, g.what+", cut", wantGet(t, g.what, kind, b[:n]), api.ErrNode)
		}
		for _, n := range []int{1, 2, 16, 240, 1000} {
			wantErr(t, g.what+", and noughts", wantGet(t, g.what, kind, append(bytes.Clone(b), make([]byte, n)...)), api.ErrNode)
			wantErr(t, g.what+", and more", wantGet(t, g.what, kind, append(bytes.Clone(b), bytes.Repeat([]byte{1}, n)...)), api.ErrNode)
		}
		wantErr(t, g.what, wantGet(t, g.what, kind, b), api.OK)
	}
}

// P10.2: noughts are the empty leaf, and no inner node.
func TestGetOfNoughts(t *testing.T) {
	n, e := node.Get(api.KindLeaf, make([]byte, api.Payload))
	wantAnswer(t, "a leaf of noughts", n, e, api.Node{Leaf: true}, api.OK)
	n, e = node.Get(api.KindInner, make([]byte, api.Payload))
	wantAnswer(t, "an inner node of noughts", n, e, api.Node{}, api.ErrNode)
	for _, n := range []int{0, 1, 239, 241, 256} {
		for _, kind := range []int{api.KindLeaf, api.KindInner} {
			wantErr(t, fmt.Sprint("noughts: ", n), wantGet(t, "noughts", kind, make([]byte, n)), api.ErrNode)
		}
	}
}

// P10.2: one byte turned at each place, into each other one: a node just where the words say so, and then its Put is these bytes.
func TestGetOfTurnedBytes(t *testing.T) {
	nodes := []api.Node{{Leaf: true}, leafOf("a", "\x07", "b", ""), leafOf("ab", "", "b", "xyz", "bb", "q"), leafOfSize(240), leafWith(79, 1, 0), innerOf(5, "b"), innerOf(255, "b", "bb", "c"), innerOfSize(240), innerWith(59, 1)}
	met := map[api.Errno]int{}
	for i, n := range nodes {
		kind, b, e := node.Put(n)
		wantErr(t, "Put", e, api.OK)
		long := plainSize(n) > 50
		for at := range b {
			what := fmt.Sprint("node ", i, ", turned at ", at)
			for turn := 1; turn < 256; turn++ {
				if long && turn&(turn-1) != 0 && turn < 250 {
					continue // of long nodes each bit alone, and some more
				}
				b[at] ^= byte(turn)
				e := wantGet(t, what, kind, b)
				if e == api.OK {
					wantPutOfGet(t, kind, b)
				}
				met[e]++
				b[at] ^= byte(turn)
			}
		}
	}
	if met[api.OK] < 1000 || met[api.ErrNode] < 1000 || len(met) != 2 {
		t.Error("errors", met)
	}
}

// wantPutOfGet asks that what is got has just these bytes.
func wantPutOfGet(t *testing.T, kind int, b []byte) {
	t.Helper()
	n, e := node.Get(kind, b)
	wantErr(t, "Get", e, api.OK)
	again, bears, e := node.Put(n)
	wantErr(t, "Put of Get", e, api.OK)
	if again != kind {
		t.Fatalf("Put of Get: kind %d, not %d", again, kind)
	}
	wantBytes(t, "Put of Get", bears, b)
}

// P10.2: something behind the node's bytes is no node's, at each place behind them.
func TestGetOfSomethingBehind(t *testing.T) {
	for _, n := range []api.Node{{Leaf: true}, leafOf("a", "\x07", "b", ""), innerOf(5, "b"), leafOfSize(239), innerOfSize(239)} {
		kind, b, _ := node.Put(n)
		for at := plainSize(n); at < api.Payload; at++ {
			for _, c := range []byte{1, 2, 128, 255} {
				b[at] = c
				wantErr(t, fmt.Sprint("something at ", at), wantGet(t, "behind", kind, b), api.ErrNode)
			}
			b[at] = 0
		}
		wantErr(t, "all noughts again", wantGet(t, "behind", kind, b), api.OK)
	}
}

// P10.2: bytes by hand that are no node's: what they say may not be, or they end too early.
func TestGetOfNoNodesBytes(t *testing.T) {
	long := bytes.Repeat([]byte{'a'}, 26)
	for _, b := range [][]byte{
		padded(1),
		padded(1, 0, 0),
		padded(2, 1, 97, 0),
		padded(2, 1, 97, 0, 1, 97, 0),
		padded(2, 1, 98, 0, 1, 97, 0),
		padded(append([]byte{1, 26}, long...)...),
		padded(append([]byte{1, 1, 97, 25}, long[:25]...)...),
		padded(1, 255, 1),
		padded(1, 1, 97, 255),
		padded(255, 1, 97, 0),
	} {
		wantErr(t, fmt.Sprint("a leaf of ", b[:9]), wantGet(t, "leaf", api.KindLeaf, b), api.ErrNode)
	}
	for _, b := range [][]byte{
		padded(0),
		padded(0, 0, 5),
		padded(1, 0, 5),
		padded(1, 0, 5, 0, 0, 6),
		padded(1, 0, 5, 1, 98),
		padded(1, 0, 1, 1, 98, 0, 6),
		padded(1, 0, 5, 1, 98, 0, 1),
		padded(1, 0, 5, 1, 98, 8, 0),
		padded(1, 8, 0, 1, 98, 0, 6),
		padded(1, 255, 255, 1, 98, 0, 6),
		padded(2, 0, 5, 1, 98, 0, 6, 1, 98, 0, 7),
		padded(2, 0, 5, 1, 98, 0, 6, 1, 97, 0, 7),
		padded(append(append([]byte{1, 0, 5, 26}, long...), 0, 6)...),
		padded(255, 0, 5, 1, 98, 0, 6),
	} {
		wantErr(t, fmt.Sprint("an inner node of ", b[:12]), wantGet(t, "inner", api.KindInner, b), api.ErrNode)
	}
}

// P10.2: a node's last byte may be Payload's last one, but not stand behind it.
func TestGetOfBytesThatEndTooEarly(t *testing.T) {
	for _, n := range []api.Node{leafOfSize(240), innerOfSize(240), leafOfSize(241), innerOfSize(241), leafOfSize(243), innerOfSize(243)} {
		kind, want := api.KindInner, api.ErrNode
		if n.Leaf {
			kind = api.KindLeaf
		}
		if plainSize(n) == 240 {
			want = api.OK
		}
		b := plainBytes(n)
		wantErr(t, fmt.Sprint("bytes: ", len(b)), wantGet(t, "cut", kind, b[:240]), want)
	}
}

// What is put is borne by a page: frame's kinds have node's names, and hand back the bytes.
func TestPutIntoAFrame(t *testing.T) {
	r := draws(2)
	for range 300 {
		n := r.fitting()
		kind, b, e := node.Put(n)
		wantErr(t, "Put", e, api.OK)
		page, e := frame.Put(api.Frame{Kind: kind, Page: 7, Epoch: 3, Data: b})
		wantErr(t, "frame.Put", e, api.OK)
		f, e := frame.Want(page, 7, kind)
		wantErr(t, "frame.Want", e, api.OK)
		got, e := node.Get(f.Kind, f.Data)
		wantAnswer(t, "Get", got, e, n, api.OK)
		if name := frame.Name(kind); (name == "leaf") != n.Leaf || (name == "inner") == n.Leaf {
			t.Fatal("name", name)
		}
	}
}
