package node_test

import (
	"bytes"
	"slices"
	"testing"

	"incipit/api"
	"incipit/node"
)

// P10.6: Get of Put is the node, Put of Get the bytes, over many nodes.
func TestThereAndBack(t *testing.T) {
	r := draws(4)
	for range 5000 {
		n := r.fitting()
		kind, b, e := node.Put(n)
		wantErr(t, "Put", e, api.OK)
		got, e := node.Get(kind, b)
		wantAnswer(t, "Get of Put", got, e, n, api.OK)
		if !node.Same(got, n) {
			t.Fatalf("%v and %v are not the same", got, n)
		}
		wantPutOfGet(t, kind, b)
	}
}

// P10.7: Join of what Cut tells is the node, whether it fits or not.
func TestJoinOfCut(t *testing.T) {
	r := draws(5)
	cut := 0
	for range 3000 {
		n := r.node(1 + r.below(60))
		a, k, b, e := node.Cut(n)
		if e == api.ErrNone {
			continue
		}
		wantErr(t, "Cut", e, api.OK)
		got, e := node.Join(a, k, b)
		wantAnswer(t, "Join of Cut", got, e, n, api.OK)
		cut++
	}
	if cut < 1000 {
		t.Error("the rule draws too few nodes that are cut", cut)
	}
}

// without is a node without one of its pairs, or without one key and the child behind it.
func without(n api.Node, i int) api.Node {
	c := copyOf(n)
	if n.Leaf {
		c.Pairs = slices.Delete(c.Pairs, i, i+1)
		return c
	}
	c.Keys, c.Kids = slices.Delete(c.Keys, i, i+1), slices.Delete(c.Kids, i+1, i+2)
	return c
}

// fitsWithoutOne answers whether n fits without one of its parts.
func fitsWithoutOne(n api.Node) bool {
	for i := range keysOf(n) {
		if plainCheck(without(n, i)) == api.OK {
			return true
		}
	}
	return false
}

// wantGoodHalves asks of a node that does not fit, but does without one of its parts, that both halves fit, and have MinFill bytes; it answers whether it is such a node.
func wantGoodHalves(t *testing.T, n api.Node) bool {
	t.Helper()
	if plainCheck(n) != api.ErrLong || !fitsWithoutOne(n) {
		return false
	}
	a, k, b, e := node.Cut(n)
	wantErr(t, "Cut", e, api.OK)
	for _, half := range []api.Node{a, b} {
		if size := plainSize(half); size < 60 || size > 240 || node.Size(half) != size {
			t.Fatalf("a half of %v has %d bytes", n, size)
		}
		wantErr(t, "Check of a half", node.Check(half), api.OK)
	}
	got, e := node.Join(a, k, b)
	wantAnswer(t, "Join of Cut", got, e, n, api.OK)
	return true
}

// P10.7: nodes that are put together of drawn parts, up to the first one with which they do not fit.
func TestHalvesOfDrawnNodes(t *testing.T) {
	r := draws(6)
	met := map[bool]int{}
	for range 3000 {
		least, longest, val := r.lengths()
		n := api.Node{Leaf: true}
		if r.below(2) == 0 {
			n = api.Node{Keys: [][]byte{r.text(least, longest)}, Kids: []int{r.kid(), r.kid()}}
		}
		for plainSize(n) <= 240 {
			n = r.more(n, least, longest, val)
		}
		if wantGoodHalves(t, n) {
			met[n.Leaf]++
		}
	}
	if met[true] < 1000 || met[false] < 1000 {
		t.Error("the rule draws too few of one sort", met)
	}
}

// more is a node with a drawn part more, or as it was, if the key is there.
func (r *draws) more(n api.Node, least, longest, val int) api.Node {
	k := r.text(least, longest)
	if n.Leaf {
		n, _ = plainSet(n, k, r.text(0, val))
		return n
	}
	if grown, e := plainGrow(n, plainKid(n, k), k, r.kid()); e == api.OK {
		return grown
	}
	return n
}

// P10.7: parts of one length, and one of another length at each place among them.
func TestHalvesOfUnevenNodes(t *testing.T) {
	met := map[bool]int{}
	for few := 1; few <= 25; few++ {
		for _, odd := range []int{1, 2, 8, 16, 24, 25} {
			for at := range 50 {
				for _, n := range []api.Node{unevenLeaf(few, odd, at), unevenInner(few, odd, at)} {
					if wantGoodHalves(t, n) {
						met[n.Leaf]++
					}
				}
			}
		}
	}
	if met[true] < 1000 || met[false] < 1000 {
		t.Error("too few of one sort", met)
	}
}

// unevenLeaf is a leaf that does not fit, of pairs with keys and values of few bytes, but for one.
func unevenLeaf(few, odd, at int) api.Node {
	n := api.Node{Leaf: true}
	for i := 0; plainSize(n) <= 240; i++ {
		length := few
		if i == at {
			length = odd
		}
		n.Pairs = append(n.Pairs, api.Pair{Key: append([]byte{byte(i)}, make([]byte, length-1)...), Val: make([]byte, length-1)})
	}
	return n
}

// unevenInner is an inner node of that sort.
func unevenInner(few, odd, at int) api.Node {
	n := api.Node{Kids: []int{2}}
	for i := 0; plainSize(n) <= 240; i++ {
		length := few
		if i == at {
			length = odd
		}
		n.Keys, n.Kids = append(n.Keys, append([]byte{byte(i)}, make([]byte, length-1)...)), append(n.Kids, 3+i)
	}
	return n
}

// P10.8: a leaf is a map: whole lives of Set and Unset, held against a plain list.
func TestALeafIsAMap(t *testing.T) {
	r := draws(7)
	for range 30 {
		leaf := api.Node{Leaf: true}
		want := map[string]string{}
		longest := 1 + r.below(3)
		for range 600 {
			if k := r.text(0, longest); r.below(4) > 0 {
				leaf = setInBoth(t, leaf, want, k, r.text(0, 25))
			} else {
				leaf = unsetInBoth(t, leaf, want, k)
			}
			wantMap(t, leaf, want)
		}
	}
}

// setInBoth and unsetInBoth do the same with a leaf and with a plain map; where they may not be the leaf stays as it was.
func setInBoth(t *testing.T, leaf api.Node, want map[string]string, k, v []byte) api.Node {
	t.Helper()
	n, e := node.Set(leaf, k, v)
	if !plainIsKey(k) || len(v) > 24 {
		wantErr(t, "Set", e, api.ErrArg)
		return leaf
	}
	if _, is := want[string(k)]; !is && len(want) == 255 {
		wantErr(t, "Set", e, api.ErrNode)
		return leaf
	}
	wantErr(t, "Set", e, api.OK)
	want[string(k)] = string(v)
	return n
}

func unsetInBoth(t *testing.T, leaf api.Node, want map[string]string, k []byte) api.Node {
	t.Helper()
	n, e := node.Unset(leaf, k)
	if _, is := want[string(k)]; !is {
		wantErr(t, "Unset", e, api.ErrNone)
		return leaf
	}
	wantErr(t, "Unset", e, api.OK)
	delete(want, string(k))
	return n
}

// wantMap asks that a leaf has just these keys, each with its value.
func wantMap(t *testing.T, leaf api.Node, want map[string]string) {
	t.Helper()
	if len(leaf.Pairs) != len(want) || !plainMayBe(leaf) || !leaf.Leaf {
		t.Fatalf("%v is not %v", leaf, want)
	}
	for k, v := range want {
		i, is := node.Find(leaf, []byte(k))
		if !is || string(leaf.Pairs[i].Key) != k || string(leaf.Pairs[i].Val) != v {
			t.Fatalf("%q is not %q in %v", k, v, leaf)
		}
	}
	for k, v := range node.All(leaf) {
		if was, is := want[string(k)]; !is || was != string(v) {
			t.Fatalf("All tells %q, %q", k, v)
		}
	}
}

// P10.8: behind Set the key is found, with its value, and behind Unset it is not; all other pairs are as they were.
func TestSetFindUnset(t *testing.T) {
	r := draws(8)
	for range 2000 {
		leaf := r.leaf(40)
		k, v := r.text(1, 3), r.text(0, 24)
		_, was := node.Find(leaf, k)
		set, e := node.Set(leaf, k, v)
		wantErr(t, "Set", e, api.OK)
		i, is := node.Find(set, k)
		if !is || !bytes.Equal(set.Pairs[i].Val, v) {
			t.Fatalf("behind Set Find tells %d, %v", i, is)
		}
		others := without(set, i)
		if was {
			j, _ := node.Find(leaf, k)
			wantNode(t, "the others behind Set", others, without(leaf, j))
		} else {
			wantNode(t, "the others behind Set", others, leaf)
		}
		unset, e := node.Unset(set, k)
		wantAnswer(t, "Unset", unset, e, others, api.OK)
		if _, is := node.Find(unset, k); is {
			t.Fatal("behind Unset Find tells the key")
		}
		_, e = node.Unset(unset, k)
		wantErr(t, "Unset again", e, api.ErrNone)
	}
}

// P10.9: Kid leads between the last key that is the key, or stands ahead of it, and the next one.
func TestOneChildForEachKey(t *testing.T) {
	r := draws(9)
	for range 1000 {
		n := r.inner(40)
		for _, k := range append(askedOf(n), r.text(0, 4), r.text(0, 30)) {
			i := node.Kid(n, k)
			if i < 0 || i >= len(n.Kids) {
				t.Fatalf("Kid of %v is %d of %d", k, i, len(n.Kids))
			}
			if i > 0 && bytes.Compare(n.Keys[i-1], k) > 0 || i < len(n.Keys) && bytes.Compare(n.Keys[i], k) <= 0 {
				t.Fatalf("Kid of %v is %d in %v", k, i, n.Keys)
			}
		}
	}
}

// P10.9: behind a cut the key leads into the same child as ahead of it.
func TestKidBehindACut(t *testing.T) {
	r := draws(10)
	for range 1000 {
		n := r.inner(30)
		a, mid, b, e := node.Cut(n)
		if e != api.OK {
			continue
		}
		for _, k := range askedOf(n) {
			half := a
			if bytes.Compare(mid, k) <= 0 {
				half = b
			}
			if half.Kids[node.Kid(half, k)] != n.Kids[node.Kid(n, k)] {
				t.Fatalf("%v leads elsewhere behind a cut of %v", k, n)
			}
		}
	}
}

// The chapter's example.
func TestTheChaptersExample(t *testing.T) {
	kind, b, e := node.Put(leafOf("a", "\x07", "b", ""))
	wantErr(t, "Put", e, api.OK)
	wantBytes(t, "the leaf", b, padded(2, 1, 97, 1, 7, 1, 98, 0))
	if kind != api.KindLeaf {
		t.Error("the leaf's kind", kind)
	}
	inner := api.Node{Keys: [][]byte{[]byte("b")}, Kids: []int{5, 6}}
	kind, b, e = node.Put(inner)
	wantErr(t, "Put", e, api.OK)
	wantBytes(t, "the inner node", b, padded(1, 0, 5, 1, 98, 0, 6))
	if kind != api.KindInner {
		t.Error("the inner node's kind", kind)
	}
	if node.Kid(inner, []byte("b")) != 1 || node.Kid(inner, []byte("azz")) != 0 {
		t.Error("Kid", node.Kid(inner, []byte("b")), node.Kid(inner, []byte("azz")))
	}
}

// R1, P10.2, P10.6: any bytes of any kind, with noughts behind them up to Payload or not.
func FuzzGet(f *testing.F) {
	f.Add(3, []byte{}, false)
	f.Add(3, []byte{2, 1, 97, 1, 7, 1, 98, 0}, true)
	f.Add(4, []byte{1, 0, 5, 1, 98, 0, 6}, true)
	f.Add(4, plainBytes(innerOfSize(240)), false)
	f.Add(3, plainBytes(leafOfSize(240)), false)
	f.Fuzz(func(t *testing.T, kind int, b []byte, pad bool) {
		if pad {
			b = padded(b...)
		}
		if wantGet(t, "Get", kind, b) == api.OK {
			wantPutOfGet(t, kind, b)
			n, _ := node.Get(kind, b)
			wantCut(t, "what is got", n)
		}
	})
}

// P10.8: any life of a leaf, three bytes an act.
func FuzzLife(f *testing.F) {
	f.Add([]byte{0, 1, 2, 0, 3, 4, 1, 1, 0})
	f.Add([]byte("abcabdabeabf"))
	f.Fuzz(func(t *testing.T, acts []byte) {
		leaf := api.Node{Leaf: true}
		want := map[string]string{}
		for ; len(acts) >= 3; acts = acts[3:] {
			k, v := bytes.Repeat(acts[1:2], int(acts[2])%27), bytes.Repeat(acts[2:3], int(acts[1])%26)
			if acts[0]%2 == 0 {
				leaf = setInBoth(t, leaf, want, k, v)
			} else {
				leaf = unsetInBoth(t, leaf, want, k)
			}
			wantMap(t, leaf, want)
		}
	})
}
