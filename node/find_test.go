package node_test

import (
	"bytes"
	"fmt"
	"testing"

	"incipit/api"
	"incipit/node"
)

// P10.3: keys ahead of all, between, at each, behind all, none and long ones, of all nodes, those that may not be among them.
func TestFindAndKid(t *testing.T) {
	for _, a := range allNodes() {
		for _, k := range askedOf(a.n) {
			i, is := node.Find(a.n, k)
			if want, wantIs := plainFind(a.n, k); i != want || is != wantIs {
				t.Errorf("%s: Find of %v is %d, %v, not %d, %v", a.what, k, i, is, want, wantIs)
			}
			if got, want := node.Kid(a.n, k), plainKid(a.n, k); got != want {
				t.Errorf("%s: Kid of %v is %d, not %d", a.what, k, got, want)
			}
		}
	}
}

// P10.3: Find by hand.
func TestFindByHand(t *testing.T) {
	leaf := leafOf("b", "1", "ba", "2", "d", "3")
	for _, c := range []struct {
		key  string
		want int
		is   bool
	}{
		{"", 0, false}, {"a", 0, false}, {"azzz", 0, false}, {"b", 0, true}, {"b\x00", 1, false}, {"ba", 1, true}, {"ba\x00", 2, false}, {"c", 2, false}, {"d", 2, true}, {"d\x00", 3, false}, {"e", 3, false}, {"\xff", 3, false}, {string(make([]byte, 300)), 0, false}, {string(bytes.Repeat([]byte("z"), 300)), 3, false},
	} {
		if i, is := node.Find(leaf, []byte(c.key)); i != c.want || is != c.is {
			t.Errorf("Find of %q is %d, %v", c.key, i, is)
		}
	}
	if i, is := node.Find(leaf, nil); i != 0 || is {
		t.Error("Find of nil", i, is)
	}
	if i, is := node.Find(api.Node{Leaf: true}, []byte("a")); i != 0 || is {
		t.Error("Find of the empty leaf", i, is)
	}
}

// P10.3: Kid by hand: a key that is there leads behind it.
func TestKidByHand(t *testing.T) {
	inner := innerOf(5, "b", "ba", "d")
	for k, want := range map[string]int{"": 0, "a": 0, "azzz": 0, "b": 1, "b\x00": 1, "ba": 2, "baa": 2, "c": 2, "d": 3, "dd": 3, "\xff": 3, string(make([]byte, 300)): 0, string(bytes.Repeat([]byte("z"), 300)): 3} {
		if got := node.Kid(inner, []byte(k)); got != want {
			t.Errorf("Kid of %q is %d, not %d", k, got, want)
		}
	}
	if got := node.Kid(inner, nil); got != 0 {
		t.Error("Kid of nil", got)
	}
}

// P10.3: a leaf has no Kid, an inner node no Find and no All, though their keys are there.
func TestEachInTheOthersPlace(t *testing.T) {
	leaf, inner := leafOf("a", "1", "b", "2"), innerOf(5, "a", "b")
	for _, k := range someTexts() {
		if i, is := node.Find(inner, k); i != 0 || is {
			t.Errorf("Find of %v in an inner node is %d, %v", k, i, is)
		}
		if i := node.Kid(leaf, k); i != 0 {
			t.Errorf("Kid of %v of a leaf is %d", k, i)
		}
	}
	for k := range node.All(inner) {
		t.Errorf("All of an inner node tells %v", k)
	}
}

// P10.3: nodes that do not fit are asked as those that do.
func TestFindInNodesThatDoNotFit(t *testing.T) {
	leaf, inner := leafWith(255, 25, 24), innerWith(255, 25)
	for i := range 255 {
		if at, is := node.Find(leaf, leaf.Pairs[i].Key); at != i || !is {
			t.Errorf("Find of key %d is %d, %v", i, at, is)
		}
		if at := node.Kid(inner, inner.Keys[i]); at != i+1 {
			t.Errorf("Kid of key %d is %d", i, at)
		}
	}
	if got := collect(node.All(leaf)); !plainSame(got, leaf) {
		t.Error("All of the greatest leaf", got)
	}
}

// collect is a leaf of the pairs that are told.
func collect(all func(func([]byte, []byte) bool)) api.Node {
	n := api.Node{Leaf: true}
	for k, v := range all {
		n.Pairs = append(n.Pairs, api.Pair{Key: k, Val: v})
	}
	return n
}

// P10.3: a leaf's pairs, all of them and in order; of all else nothing.
func TestAll(t *testing.T) {
	for _, a := range allNodes() {
		want := api.Node{Leaf: true}
		if a.n.Leaf && plainMayBe(a.n) {
			want.Pairs = a.n.Pairs
		}
		all := node.All(a.n)
		for range 3 { // one may range again
			wantNode(t, "All of "+a.what, collect(all), want)
		}
	}
}

// P10.3, R3: ranging may be left at each pair, and begun anew.
func TestAllLeftAtEachPair(t *testing.T) {
	leaf := leafOf("a", "1", "b", "", "c", "3", "d", "4")
	all := node.All(leaf)
	for stop := range leaf.Pairs {
		told := 0
		for k, v := range all {
			wantBytes(t, "key", k, leaf.Pairs[told].Key)
			wantBytes(t, "value", v, leaf.Pairs[told].Val)
			if told == stop {
				break
			}
			told++
		}
		if told != stop {
			t.Fatalf("left behind %d, not %d", told, stop)
		}
		wantNode(t, "all again", collect(all), leaf)
	}
}

// R3: one ranging within another, and each of its own.
func TestAllWithinAll(t *testing.T) {
	leaf := leafOf("a", "1", "b", "2", "c", "3")
	all := node.All(leaf)
	var told []string
	for k := range all {
		for l, v := range all {
			told = append(told, fmt.Sprintf("%s%s%s", k, l, v))
			if string(l) == string(k) {
				break
			}
		}
	}
	if got := fmt.Sprint(told); got != "[aa1 ba1 bb2 ca1 cb2 cc3]" {
		t.Error(got)
	}
}

// R3: the leaf's owner may change it ahead of and amid the ranging; whoever ranges may change what is told. Neither is seen.
func TestAllSharesNothing(t *testing.T) {
	leaf := leafOf("a", "1", "b", "2", "c", "3")
	was := copyOf(leaf)
	all := node.All(leaf)
	for k, v := range all {
		scribbleText(k)
		scribbleText(v)
	}
	wantNode(t, "the leaf", leaf, was)
	wantNode(t, "ranged again", collect(all), was)
	told := api.Node{Leaf: true}
	for k, v := range all {
		scribble(leaf)
		told.Pairs = append(told.Pairs, api.Pair{Key: k, Val: v})
	}
	wantNode(t, "told amid changes", told, was)
	wantNode(t, "told behind changes", collect(all), was)
}
