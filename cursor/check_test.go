package cursor_test

import (
	"bytes"
	"fmt"
	"testing"

	"incipit/api"
	"incipit/cursor"
)

// P12.4: trees that are right are OK, those that are laid by hand, too, and the empty one.
func TestCheckOfRightTrees(t *testing.T) {
	_, p := formatted(t, 20, 2)
	wantErr(t, "Check of the empty tree", cursor.Check(at(t, p, 0, 0)), api.OK)
	for height := 1; height <= 4; height++ {
		wantErr(t, fmt.Sprintf("Check at height %d", height), cursor.Check(handLaid(t, height).x), api.OK)
	}
	for _, b := range someTrees(t) {
		b.right("all Puts")
	}
}

// P12.4: each fault at each node of trees of the heights 1 to 3.
func TestCheckOfEachFault(t *testing.T) {
	for height := 1; height <= 3; height++ {
		for _, f := range faults() {
			met := 0
			for i := range handLaid(t, height).spots {
				h := handLaid(t, height)
				if !f.can(h, i) {
					continue
				}
				met++
				f.make(h, i)
				wantErr(t, fmt.Sprintf("height %d, %s at spot %d: Check", height, f.name, i), cursor.Check(h.x), f.want)
				if r := read(h.x); r.wrong != f.want {
					t.Fatalf("height %d, %s at spot %d: read by hand it is error %d, not %d", height, f.name, i, int(r.wrong), int(f.want))
				}
			}
			if met == 0 && height > 1 {
				t.Errorf("height %d: %s can't be anywhere", height, f.name)
			}
		}
	}
}

// P12.4, R2: each fault at each node, beside a drawn one at each node that comes later on the way: the first one is told.
func TestTheFirstFault(t *testing.T) {
	t.Parallel()
	const height = 3
	all := faults()
	count := len(handLaid(t, height).spots)
	r := draws(5)
	for i := range count {
		for j := i + 1; j < count; j++ {
			for _, f := range all {
				h := handLaid(t, height)
				if !f.can(h, i) {
					continue
				}
				g := all[r.below(len(all))]
				for !g.can(h, j) {
					g = all[r.below(len(all))]
				}
				g.make(h, j)
				f.make(h, i)
				wantErr(t, fmt.Sprintf("%s at spot %d, %s at spot %d: Check", f.name, i, g.name, j), cursor.Check(h.x), f.want)
			}
		}
	}
}

// P12.4: the root is come to ahead of its children, and these with all that is below each from the first on: a fault below the first one is told ahead of one at the second.
func TestTheOrderOfTheWay(t *testing.T) {
	of := map[api.Errno]fault{}
	for _, f := range faults() {
		if f.may == nil {
			of[f.want] = f
		}
	}
	h := handLaid(t, 3)
	const child, leaf, next = 1, 2, 6 // the root's first child, the first leaf below it, and the second child
	if h.spots[child].depth != 2 || h.spots[leaf].depth != 3 || h.spots[next-1].depth != 3 || h.spots[next].depth != 2 {
		t.Fatal("the spots are not where they were thought to be")
	}
	of[api.ErrSum].make(h, next)
	wantErr(t, "the second child: Check", cursor.Check(h.x), api.ErrSum)
	of[api.ErrKind].make(h, next-1)
	wantErr(t, "and the last leaf ahead of it: Check", cursor.Check(h.x), api.ErrKind)
	of[api.ErrPage].make(h, leaf)
	wantErr(t, "and the first leaf: Check", cursor.Check(h.x), api.ErrPage)
	of[api.ErrNode].make(h, child)
	wantErr(t, "and the first child: Check", cursor.Check(h.x), api.ErrNode)
	of[api.ErrSum].make(h, 0)
	wantErr(t, "and the root: Check", cursor.Check(h.x), api.ErrSum)
}

// filled is a node with values, or keys, that are cut so that it has just so many bytes.
func filled(n api.Node, size int) api.Node {
	if n.Leaf { // two keys of 25 bytes
		over := size - 55
		return api.Node{Leaf: true, Pairs: []api.Pair{{Key: n.Pairs[0].Key, Val: longVal(1)[:over/2]}, {Key: n.Pairs[1].Key, Val: longVal(2)[:over-over/2]}}}
	}
	cut := api.Node{Kids: n.Kids} // three keys, which are told apart by their first two bytes
	for i, length := range []int{16, 16, size - 44} {
		cut.Keys = append(cut.Keys, n.Keys[i][:length])
	}
	return cut
}

// P12.4: a node of MinFill bytes, of one less, of one more; leaves and inner nodes, at each depth. The root may have fewer.
func TestMinFill(t *testing.T) {
	for height := 1; height <= 4; height++ {
		for i, s := range handLaid(t, height).spots {
			for size := 57; size <= 63; size++ {
				h := handLaid(t, height)
				n := filled(s.node, size)
				if len(plainBytes(n)) != size {
					t.Fatalf("a node of %d bytes has %d", size, len(plainBytes(n)))
				}
				relay(t, h.p, s.page, n)
				want := api.OK
				if size < 60 && i > 0 {
					want = api.ErrTree
				}
				wantErr(t, fmt.Sprintf("height %d, spot %d, %d bytes: Check", height, i, size), cursor.Check(h.x), want)
			}
		}
	}
}

// P12.4: the root may be small, as a leaf and as an inner node, but no leaf without pairs.
func TestTheRootMayBeSmall(t *testing.T) {
	_, p := formatted(t, 20, 2)
	wantErr(t, "a root of one pair: Check", cursor.Check(at(t, p, lay(t, p, leafOf(0, []byte{0})), 1)), api.OK)
	wantErr(t, "a root of no pairs: Check", cursor.Check(at(t, p, lay(t, p, leafOf(0)), 1)), api.ErrTree)
	a, b := lay(t, p, leafOf(24, longKey(1), longKey(2))), lay(t, p, leafOf(24, longKey(5), longKey(6)))
	wantErr(t, "a root of one key: Check", cursor.Check(at(t, p, lay(t, p, innerWith([]int{a, b}, string(two(5)))), 2)), api.OK)
}

// P12.4: keys at the ends of their place: the least that it allows, the one right ahead of it, the last ahead of the key that ends it, that key, and the one right behind it; in leaves that are the first, in the midst, and the last of their node, whose ends stand above that.
func TestKeysAtTheirEnds(t *testing.T) {
	for i, s := range handLaid(t, 3).spots {
		if !s.node.Leaf {
			continue
		}
		for _, x := range []struct {
			last bool
			of   string // low or high
			key  func(end string) []byte
			want api.Errno
		}{
			{false, s.low, func(end string) []byte { return []byte(end) }, api.OK},
			{false, s.low, func(end string) []byte { return lastOne(end, -1) }, api.ErrTree},
			{false, s.low, func(end string) []byte { return []byte(end[:24]) }, api.ErrTree},
			{false, s.low, func(end string) []byte { return lastOne(end, 1) }, api.OK},
			{true, s.high, func(end string) []byte { return lastOne(end, -1) }, api.OK},
			{true, s.high, func(end string) []byte { return []byte(end[:24]) }, api.OK},
			{true, s.high, func(end string) []byte { return []byte(end) }, api.ErrTree},
			{true, s.high, func(end string) []byte { return lastOne(end, 1) }, api.ErrTree},
		} {
			h := handLaid(t, 3)
			if x.of == "" {
				// Nothing ends the tree's first place ahead, nor its last one behind.
				h.rekey(i, x.last, map[bool][]byte{false: {0, 'x', 'x', 'x', 'x', 'x'}, true: bytes.Repeat([]byte{255}, 25)}[x.last])
				wantErr(t, fmt.Sprintf("an edge, spot %d: Check", i), cursor.Check(h.x), api.OK)
				continue
			}
			key := x.key(x.of)
			h.rekey(i, x.last, key)
			wantErr(t, fmt.Sprintf("spot %d from %q on, ahead of %q, with %q: Check", i, s.low, s.high, key), cursor.Check(h.x), x.want)
		}
	}
}

// P12.4: an inner node's key may be the least that its place allows: what is wrong then is told of the child ahead of it, which has no place. One ahead of the least is told of the node.
func TestAnInnerNodesLeastKey(t *testing.T) {
	for _, x := range []struct {
		key  func(low string) []byte
		want api.Errno
	}{
		{func(low string) []byte { return []byte(low) }, api.ErrSum},
		{func(low string) []byte { return lastOne(low, -1) }, api.ErrTree},
	} {
		h := handLaid(t, 3)
		for i, s := range h.spots {
			if s.node.Leaf || s.low == "" {
				continue
			}
			h := handLaid(t, 3)
			h.rekey(i, false, x.key(s.low))
			wantErr(t, "a child without a place: Check", cursor.Check(h.x), api.ErrTree)
			h.raw(i+1, []byte("spoilt"))
			wantErr(t, "a child that can't be read: Check", cursor.Check(h.x), x.want)
		}
	}
}

// P12.4: a tree that is read with another height has pages of another kind, or children that stand nowhere.
func TestAnotherHeight(t *testing.T) {
	for height := 1; height <= 3; height++ {
		h := handLaid(t, height)
		root, _ := h.x.Root()
		for other := 1; other <= api.MaxHeight; other++ {
			if other != height {
				wantErr(t, fmt.Sprintf("height %d read as %d: Check", height, other), cursor.Check(at(t, h.p, root, other)), api.ErrKind)
			}
		}
	}
}

// P12.4, R1: pages that lead anywhere, round and twice: Check tells what a reading by hand does; and no call panics, each ends.
func TestKnots(t *testing.T) {
	t.Parallel()
	met := map[api.Errno]int{}
	for seed := range 800 {
		r := draws(seed)
		_, p := formatted(t, 30, 2+r.below(6))
		pages := knot(t, p, &r, 2+r.below(8))
		for height := 1; height <= 5; height++ {
			for _, root := range pages {
				x := at(t, p, root, height)
				want := read(x)
				met[want.wrong]++
				if e := cursor.Check(x); e != want.wrong {
					t.Fatalf("seed %d, root %d, height %d: Check answers error %d, not %d: %s", seed, root, height, int(e), int(want.wrong), want.why)
				}
				key := r.text(0, 3)
				told := listed(cursor.All(x), -1)
				if n := cursor.Count(x); n != len(told) {
					t.Fatalf("seed %d, root %d, height %d: Count is %d, All tells %d", seed, root, height, n, len(told))
				}
				for _, p := range listed(cursor.From(x, key), -1) {
					if string(p.Key) < string(key) {
						t.Fatalf("From(%q) tells %q", key, p.Key)
					}
				}
				cursor.First(x, key)
				cursor.Last(x, key)
			}
		}
	}
	for _, e := range []api.Errno{api.OK, api.ErrTree, api.ErrKind, api.ErrArg, api.ErrNone} {
		if met[e] < 10 {
			t.Errorf("the rule draws too few trees of which Check answers %d: %v", int(e), met)
		}
	}
}

// THE BOUND, R1: however often a page stands in a tree, all calls end soon: there are 51 to the power of 7 ways down this one.
func TestALadder(t *testing.T) {
	for height := 1; height <= api.MaxHeight; height++ {
		_, p := formatted(t, 100, 3)
		x := at(t, p, ladder(t, p, height), height)
		want := api.ErrTree
		if height == 1 {
			want = api.OK
		}
		wantErr(t, "Check", cursor.Check(x), want)
		for _, key := range someBytes() {
			for _, l := range [][]api.Pair{listed(cursor.From(x, key), -1), listed(cursor.Range(x, key, []byte{200}), -1), listed(cursor.Prefix(x, key), -1)} {
				if len(l) > 6 {
					t.Fatalf("height %d: %d pairs are told", height, len(l))
				}
			}
			cursor.First(x, key)
			cursor.Last(x, key)
		}
		if n := cursor.Count(x); n != 6 {
			t.Fatalf("height %d: Count is %d", height, n)
		}
	}
}
