package node_test

import (
	"fmt"
	"testing"

	"incipit/api"
	"incipit/node"
)

// placesOf are places in a node, at its ends and beyond them.
func placesOf(n api.Node) []int {
	last := len(n.Kids)
	l := []int{0, 1, 2, last / 2, last - 3, last - 2, last - 1, last, last + 1, last + 2}
	return append(l, farPlaces...)
}

// someKids are children, and such that are none.
func someKids() []int { return append([]int{2, 3, 255, 256, 2046, 2047}, noKids...) }

// P10.4: Turn and Shrink at all places, with all children, of all nodes.
func TestTurnAndShrink(t *testing.T) {
	met := map[api.Errno]int{}
	for _, a := range allNodes() {
		for _, i := range placesOf(a.n) {
			for _, kid := range someKids() {
				got, e := node.Turn(a.n, i, kid)
				want, wantE := plainTurn(a.n, i, kid)
				wantAnswer(t, fmt.Sprintf("Turn of %s at %d to %d", a.what, i, kid), got, e, want, wantE)
				met[e]++
			}
			got, e := node.Shrink(a.n, i)
			want, wantE := plainShrink(a.n, i)
			wantAnswer(t, fmt.Sprintf("Shrink of %s at %d", a.what, i), got, e, want, wantE)
			met[e]++
		}
	}
	for _, e := range []api.Errno{api.OK, api.ErrArg, api.ErrNode} {
		if met[e] < 100 {
			t.Error("too few of error", int(e), met[e])
		}
	}
}

// P10.4: Grow at all places, with all keys and children, of all nodes but the greatest ones.
func TestGrow(t *testing.T) {
	met := map[api.Errno]int{}
	for _, a := range allNodes() {
		keys := someTexts()
		if len(a.n.Keys) < 10 {
			keys = askedOf(a.n)
		}
		for _, i := range placesOf(a.n) {
			for _, k := range keys {
				for _, kid := range []int{2, 2047, 1, 2048, -5} {
					got, e := node.Grow(a.n, i, k, kid)
					want, wantE := plainGrow(a.n, i, k, kid)
					wantAnswer(t, fmt.Sprintf("Grow of %s at %d by %s, %d", a.what, i, brief(k), kid), got, e, want, wantE)
					met[e]++
				}
			}
		}
	}
	for _, e := range []api.Errno{api.OK, api.ErrArg, api.ErrNode} {
		if met[e] < 100 {
			t.Error("too few of error", int(e), met[e])
		}
	}
}

// P10.4: Turn by hand, at each child.
func TestTurnByHand(t *testing.T) {
	inner := innerOf(5, "b", "d")
	for i, want := range [][]int{{9, 6, 7}, {5, 9, 7}, {5, 6, 9}} {
		got, e := node.Turn(inner, i, 9)
		wantAnswer(t, fmt.Sprint("Turn at ", i), got, e, api.Node{Keys: inner.Keys, Kids: want}, api.OK)
	}
	got, e := node.Turn(inner, 1, 5)
	wantAnswer(t, "Turn to a child that is there", got, e, api.Node{Keys: inner.Keys, Kids: []int{5, 5, 7}}, api.OK)
	for _, i := range []int{-1, 3, 4} {
		got, e := node.Turn(inner, i, 9)
		wantAnswer(t, fmt.Sprint("Turn at ", i), got, e, api.Node{}, api.ErrArg)
	}
	for _, kid := range noKids {
		got, e := node.Turn(inner, 1, kid)
		wantAnswer(t, fmt.Sprint("Turn to ", kid), got, e, api.Node{}, api.ErrArg)
	}
}

// P10.4: Grow by hand, at each place: the key at it, and the child behind that.
func TestGrowByHand(t *testing.T) {
	inner := innerOf(5, "b", "d")
	for i, c := range []struct {
		key  string
		want api.Node
	}{
		{"a", api.Node{Keys: [][]byte{{'a'}, {'b'}, {'d'}}, Kids: []int{5, 9, 6, 7}}},
		{"c", api.Node{Keys: [][]byte{{'b'}, {'c'}, {'d'}}, Kids: []int{5, 6, 9, 7}}},
		{"e", api.Node{Keys: [][]byte{{'b'}, {'d'}, {'e'}}, Kids: []int{5, 6, 7, 9}}},
	} {
		got, e := node.Grow(inner, i, []byte(c.key), 9)
		wantAnswer(t, "Grow by "+c.key, got, e, c.want, api.OK)
		for _, other := range []string{"a", "b", "c", "d", "e"} {
			if other != c.key {
				got, e := node.Grow(inner, i, []byte(other), 9)
				wantAnswer(t, fmt.Sprint("Grow at ", i, " by ", other), got, e, api.Node{}, api.ErrNode)
			}
		}
	}
}

// P10.4: Grow's ErrArg: no such child, no child, no key; it stands ahead of what comes of it.
func TestGrowsArguments(t *testing.T) {
	for _, inner := range []api.Node{innerOf(5, "b", "d"), innerWith(255, 2)} {
		last := len(inner.Kids)
		for _, k := range []string{"a", "c", "b"} {
			for _, i := range append([]int{last, last + 1}, farPlaces...) {
				got, e := node.Grow(inner, i, []byte(k), 9)
				wantAnswer(t, fmt.Sprint("Grow at ", i), got, e, api.Node{}, api.ErrArg)
			}
			for _, kid := range noKids {
				got, e := node.Grow(inner, 1, []byte(k), kid)
				wantAnswer(t, fmt.Sprint("Grow by the child ", kid), got, e, api.Node{}, api.ErrArg)
			}
		}
		for _, k := range [][]byte{nil, {}, key(0, 26), key(0, 300)} {
			got, e := node.Grow(inner, 1, k, 9)
			wantAnswer(t, fmt.Sprint("Grow by ", k), got, e, api.Node{}, api.ErrArg)
		}
	}
}

// P10.4: where 255 keys are there no further one may be; where 254 are, one may.
func TestGrowUpTo255(t *testing.T) {
	inner := innerWith(254, 2)
	for i := range 255 {
		k := []byte{0, byte(i - 1), 'w'} // behind the key ahead of it
		if i == 0 {
			k = []byte{0}
		}
		got, e := node.Grow(inner, i, k, 9)
		want, wantE := plainGrow(inner, i, k, 9)
		wantAnswer(t, fmt.Sprint("the 255th key at ", i), got, e, want, wantE)
		wantErr(t, "the 255th key", e, api.OK)
		if len(got.Keys) != 255 || got.Kids[i+1] != 9 || string(got.Keys[i]) != string(k) {
			t.Fatalf("the 255th key at %d: %v", i, got)
		}
		other, e := node.Grow(inner, (i+1)%255, k, 9)
		wantAnswer(t, fmt.Sprint("the 255th key, not at ", i), other, e, api.Node{}, api.ErrNode)
		for at := range 256 {
			other, e = node.Grow(got, at, append(key(at-1, 2), 'v'), 9)
			wantAnswer(t, fmt.Sprint("the 256th key at ", at), other, e, api.Node{}, api.ErrNode)
		}
	}
}

// P10.4: Shrink by hand, at each key: it and the child behind it go.
func TestShrinkByHand(t *testing.T) {
	inner := innerOf(5, "b", "d", "f")
	for i, want := range []api.Node{
		{Keys: [][]byte{{'d'}, {'f'}}, Kids: []int{5, 7, 8}},
		{Keys: [][]byte{{'b'}, {'f'}}, Kids: []int{5, 6, 8}},
		{Keys: [][]byte{{'b'}, {'d'}}, Kids: []int{5, 6, 7}},
	} {
		got, e := node.Shrink(inner, i)
		wantAnswer(t, fmt.Sprint("Shrink at ", i), got, e, want, api.OK)
	}
	for _, i := range append([]int{3, 4}, farPlaces...) {
		got, e := node.Shrink(inner, i)
		wantAnswer(t, fmt.Sprint("Shrink at ", i), got, e, api.Node{}, api.ErrArg)
	}
	one := innerOf(5, "b")
	got, e := node.Shrink(one, 0)
	wantAnswer(t, "Shrink of the one key", got, e, api.Node{}, api.ErrNode)
	got, e = node.Shrink(one, 1)
	wantAnswer(t, "Shrink behind the one key", got, e, api.Node{}, api.ErrArg)
}

// P10.4: of a leaf, and of what may not be, ErrNode, ahead of ErrArg.
func TestTurnGrowAndShrinkOfNoInnerNode(t *testing.T) {
	for _, b := range append(badNodes(), named{"a leaf", leafOf("a", "1", "b", "2")}, named{"the greatest leaf", leafWith(255, 25, 24)}, named{"the empty leaf", api.Node{Leaf: true}}) {
		for _, i := range append([]int{0, 1, 2, 3}, farPlaces...) {
			for _, kid := range someKids() {
				got, e := node.Turn(b.n, i, kid)
				wantAnswer(t, "Turn of "+b.what, got, e, api.Node{}, api.ErrNode)
				for _, k := range [][]byte{nil, {1}, []byte("zz"), key(1, 26)} {
					got, e := node.Grow(b.n, i, k, kid)
					wantAnswer(t, "Grow of "+b.what, got, e, api.Node{}, api.ErrNode)
				}
			}
			got, e := node.Shrink(b.n, i)
			wantAnswer(t, "Shrink of "+b.what, got, e, api.Node{}, api.ErrNode)
		}
	}
}

// P10.4: what comes of Grow need not fit, nor what it is asked of.
func TestGrowBeyondPayload(t *testing.T) {
	inner := api.Node{Keys: [][]byte{key(0, 25)}, Kids: []int{2, 3}}
	for i := 1; i < 255; i++ {
		n, e := node.Grow(inner, i, key(i, 25), 3+i)
		wantErr(t, fmt.Sprint("Grow by key ", i), e, api.OK)
		inner = n
	}
	wantNode(t, "the greatest one", inner, innerWith(255, 25))
	n, e := node.Turn(inner, 255, 1000)
	wantErr(t, "Turn", e, api.OK)
	if n.Kids[255] != 1000 || len(n.Kids) != 256 {
		t.Error("Turn", n.Kids)
	}
	for i := 254; i > 0; i-- {
		n, e := node.Shrink(inner, i)
		wantErr(t, fmt.Sprint("Shrink at ", i), e, api.OK)
		inner = n
	}
	wantNode(t, "the least one", inner, api.Node{Keys: [][]byte{key(0, 25)}, Kids: []int{2, 3}})
}
