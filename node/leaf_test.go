package node_test

import (
	"bytes"
	"fmt"
	"testing"

	"incipit/api"
	"incipit/node"
)

// someVals are values, and what is too long for one.
func someVals() [][]byte {
	return [][]byte{nil, {}, {0}, {7}, bytes.Repeat([]byte{9}, 24), bytes.Repeat([]byte{9}, 25), make([]byte, 256), make([]byte, 280)}
}

// P10.4: Set and Unset of all keys, of all nodes: as the words have it, with the error that stands first.
func TestSetAndUnset(t *testing.T) {
	met := map[api.Errno]int{}
	for _, a := range allNodes() {
		vals := someVals()
		if len(a.n.Pairs) > 20 {
			vals = vals[4:6] // the longest one, and one more byte
		}
		for _, k := range askedOf(a.n) {
			for _, v := range vals {
				got, e := node.Set(a.n, k, v)
				want, wantE := plainSet(a.n, k, v)
				wantAnswer(t, fmt.Sprintf("Set in %s of %s, %s", a.what, brief(k), brief(v)), got, e, want, wantE)
				met[e]++
			}
			got, e := node.Unset(a.n, k)
			want, wantE := plainUnset(a.n, k)
			wantAnswer(t, fmt.Sprintf("Unset in %s of %s", a.what, brief(k)), got, e, want, wantE)
			met[e]++
		}
	}
	for _, e := range []api.Errno{api.OK, api.ErrArg, api.ErrNone, api.ErrNode} {
		if met[e] < 100 {
			t.Error("too few of error", int(e), met[e])
		}
	}
}

// P10.4: a new key at each place, by hand.
func TestSetAtEachPlace(t *testing.T) {
	leaf := leafOf("b", "1", "d", "2", "f", "3")
	for _, c := range []struct {
		key  string
		want api.Node
	}{
		{"a", leafOf("a", "x", "b", "1", "d", "2", "f", "3")},
		{"b", leafOf("b", "x", "d", "2", "f", "3")},
		{"bb", leafOf("b", "1", "bb", "x", "d", "2", "f", "3")},
		{"c", leafOf("b", "1", "c", "x", "d", "2", "f", "3")},
		{"d", leafOf("b", "1", "d", "x", "f", "3")},
		{"e", leafOf("b", "1", "d", "2", "e", "x", "f", "3")},
		{"f", leafOf("b", "1", "d", "2", "f", "x")},
		{"g", leafOf("b", "1", "d", "2", "f", "3", "g", "x")},
	} {
		got, e := node.Set(leaf, []byte(c.key), []byte("x"))
		wantAnswer(t, "Set of "+c.key, got, e, c.want, api.OK)
	}
	got, e := node.Set(api.Node{Leaf: true}, []byte("a"), nil)
	wantAnswer(t, "Set in the empty leaf", got, e, leafOf("a", ""), api.OK)
	got, e = node.Set(leaf, []byte("d"), nil)
	wantAnswer(t, "Set of no value", got, e, leafOf("b", "1", "d", "", "f", "3"), api.OK)
}

// P10.4: keys and values that may not be are ErrArg, at the edges of their lengths.
func TestSetOfWhatMayNotBe(t *testing.T) {
	leaf := leafOf("b", "1")
	for n := range 60 {
		for m := range 60 {
			want := api.OK
			if n < 1 || n > 25 || m > 24 {
				want = api.ErrArg
			}
			got, e := node.Set(leaf, bytes.Repeat([]byte("c"), n), bytes.Repeat([]byte("v"), m))
			wantErr(t, fmt.Sprint("Set of bytes: ", n, ", ", m), e, want)
			if e != api.OK {
				wantNode(t, "beside an error", got, api.Node{})
			}
		}
	}
}

// P10.4: where 255 pairs are there a key more is ErrNode, and one that is there gets its value.
func TestSetIn255(t *testing.T) {
	leaf := leafWith(255, 2, 1)
	for _, k := range [][]byte{{0}, {0, 0, 0}, {0, 99, 1}, {0, 255}, {255}} {
		got, e := node.Set(leaf, k, nil)
		wantAnswer(t, fmt.Sprint("one more: ", k), got, e, api.Node{}, api.ErrNode)
		got, e = node.Set(leaf, k, make([]byte, 25))
		wantAnswer(t, fmt.Sprint("one more, and too long: ", k), got, e, api.Node{}, api.ErrArg)
	}
	for i, p := range leaf.Pairs {
		got, e := node.Set(leaf, p.Key, []byte("new"))
		want := copyOf(leaf)
		want.Pairs[i].Val = []byte("new")
		wantAnswer(t, fmt.Sprint("the key ", i), got, e, want, api.OK)
		less, e := node.Unset(leaf, p.Key)
		wantErr(t, "Unset", e, api.OK)
		got, e = node.Set(less, p.Key, p.Val)
		wantAnswer(t, fmt.Sprint("out and in again: ", i), got, e, leaf, api.OK)
	}
	got, e := node.Set(leafWith(254, 2, 1), []byte{255}, []byte{254})
	wantErr(t, "the 255th", e, api.OK)
	if len(got.Pairs) != 255 {
		t.Error("pairs", len(got.Pairs))
	}
}

// P10.4: what comes of Set need not fit.
func TestSetBeyondPayload(t *testing.T) {
	leaf := api.Node{Leaf: true}
	for i := range 255 {
		n, e := node.Set(leaf, key(i, 25), make([]byte, 24))
		wantErr(t, fmt.Sprint("Set of pair ", i), e, api.OK)
		leaf = n
	}
	if got := node.Size(leaf); got != 1+255*51 {
		t.Error("Size", got)
	}
	for i := range 255 {
		n, e := node.Unset(leaf, key(i, 25))
		wantErr(t, fmt.Sprint("Unset of pair ", i), e, api.OK)
		leaf = n
	}
	wantNode(t, "all out again", leaf, api.Node{Leaf: true})
}

// P10.4: Unset by hand.
func TestUnsetByHand(t *testing.T) {
	leaf := leafOf("b", "1", "d", "2", "f", "3")
	for k, want := range map[string]api.Node{"b": leafOf("d", "2", "f", "3"), "d": leafOf("b", "1", "f", "3"), "f": leafOf("b", "1", "d", "2")} {
		got, e := node.Unset(leaf, []byte(k))
		wantAnswer(t, "Unset of "+k, got, e, want, api.OK)
	}
	for _, k := range []string{"", "a", "bb", "c", "ff", "\xff", string(make([]byte, 26)), string(make([]byte, 300))} {
		got, e := node.Unset(leaf, []byte(k))
		wantAnswer(t, "Unset of "+k, got, e, api.Node{}, api.ErrNone)
	}
	got, e := node.Unset(leaf, nil)
	wantAnswer(t, "Unset of nil", got, e, api.Node{}, api.ErrNone)
	got, e = node.Unset(leafOf("a", "1"), []byte("a"))
	wantAnswer(t, "Unset of the last one", got, e, api.Node{Leaf: true}, api.OK)
	got, e = node.Unset(api.Node{Leaf: true}, []byte("a"))
	wantAnswer(t, "Unset in the empty leaf", got, e, api.Node{}, api.ErrNone)
}

// P10.4: of an inner node, and of what may not be, ErrNode, ahead of ErrArg and ErrNone.
func TestSetAndUnsetOfNoLeaf(t *testing.T) {
	for _, b := range append(badNodes(), named{"an inner node", innerOf(5, "a", "b")}, named{"the greatest inner node", innerWith(255, 25)}) {
		for _, k := range someTexts() {
			for _, v := range someVals() {
				got, e := node.Set(b.n, k, v)
				wantAnswer(t, "Set in "+b.what, got, e, api.Node{}, api.ErrNode)
			}
			got, e := node.Unset(b.n, k)
			wantAnswer(t, "Unset in "+b.what, got, e, api.Node{}, api.ErrNode)
		}
	}
}
