package tree_test

import (
	"bytes"
	"fmt"
	"slices"
	"testing"

	"incipit/api"
	"incipit/tree"
)

// R5: of a tree that no call made calls with an error answer ErrMade, whatever else is wrong; all others their zero value; Nodes tells nothing.
func TestTreesThatNoCallMade(t *testing.T) {
	_, p := formatted(t, 20, 2)
	refused, e := tree.At(p, 1, 1)
	wantErr(t, "At", e, api.ErrArg)
	unmade, e := tree.At(nil, 0, 0)
	wantErr(t, "At", e, api.ErrMade)
	var zero tree.Tree
	for what, x := range map[string]*tree.Tree{"nil": nil, "zero": {}, "new": new(tree.Tree), "a variable": &zero, "refused": refused, "without a pager": unmade} {
		for range 2 { // the calls have made nothing of it
			for _, key := range someKeys() {
				wantGetErr(t, x.Get, key, api.ErrMade)
				wantErr(t, what+": Delete", x.Delete(key), api.ErrMade)
				for _, val := range someVals() {
					wantErr(t, what+": Put", x.Put(key, val), api.ErrMade)
				}
			}
			for _, page := range someRoots(20) {
				for _, depth := range someHeights {
					wantNodeErr(t, x, page, depth, api.ErrMade)
				}
			}
			if l, e := x.Pages(); l != nil || e != api.ErrMade {
				t.Errorf("%s: Pages answers %v, error %d", what, l, int(e))
			}
			for page, n := range x.Nodes() {
				t.Errorf("%s: Nodes tells %d, %v", what, page, n)
			}
			if root, height := x.Root(); root != 0 || height != 0 || x.Pager() != nil {
				t.Errorf("%s: Root is %d, %d, Pager %v", what, root, height, x.Pager())
			}
		}
	}
}

// roomy is a text with room behind it, in which something stands.
func roomy(b []byte) []byte {
	return append(append(make([]byte, 0, len(b)+40), b...), bytes.Repeat([]byte{0xee}, 40)...)[:len(b)]
}

// scribble writes over texts, and over what room they have behind them.
func scribble(texts ...[]byte) {
	for _, b := range texts {
		b = b[:cap(b)]
		for i := range b {
			b[i] ^= 0x5a
		}
	}
}

// R3: keys and values that are handed in are not written to, nor what stands behind them, and are not kept: their owner may change them.
func TestWhatIsHandedIn(t *testing.T) {
	for _, size := range []int{2, 64} {
		for _, s := range sorts {
			b := empty(t, 400, size)
			for _, i := range s.order(250) {
				key, val := roomy(s.key(i)), roomy(s.val(i))
				wasKey, wasVal := bytes.Clone(key[:cap(key)]), bytes.Clone(val[:cap(val)])
				b.put(key, val)
				b.get(key)
				b.delete(s.key(i / 2))
				if i%3 == 0 {
					b.delete(key)
				}
				if !bytes.Equal(key[:cap(key)], wasKey) || !bytes.Equal(val[:cap(val)], wasVal) {
					t.Fatalf("%s: what was handed in was written to", s.name)
				}
				scribble(key, val)
			}
			b.told("their owner changed them")
			b.getAll()
			wantErr(t, "Commit", b.commit(), api.OK)
			b.told("Commit")
		}
	}
}

// scribbleNode writes over all that a node has.
func scribbleNode(n api.Node) {
	for i, p := range n.Pairs {
		scribble(p.Key, p.Val)
		n.Pairs[i] = api.Pair{Key: []byte("scribble")}
	}
	for i, key := range n.Keys {
		scribble(key)
		n.Keys[i] = []byte("scribble")
	}
	for i := range n.Kids {
		n.Kids[i] = 3
	}
}

// R3: what is answered is nobody's else: changed by its owner, also while one ranges, it leaves the tree and other answers as they were.
func TestWhatIsAnswered(t *testing.T) {
	for _, size := range []int{2, 64} {
		for _, s := range sorts {
			b := grown(t, 400, size, s, 150)
			for i := range 40 {
				b.put(s.key(i), s.val(i+1)) // some pages are of this transaction
			}
			r := b.right("Puts")
			for range 2 {
				for key := range b.m {
					val, e := b.x.Get([]byte(key))
					wantErr(t, "Get", e, api.OK)
					scribble(val)
				}
				l, e := b.x.Pages()
				wantErr(t, "Pages", e, api.OK)
				clear(l)
				i := 0
				for page, n := range b.x.Nodes() {
					if page != r.pages[i] || !sameNode(n, r.nodes[i]) {
						t.Fatalf("%s: the %d-th is %d, %v", s.name, i, page, n)
					}
					scribbleNode(n)
					again, e := b.x.Node(page, r.depths()[page])
					if e != api.OK || !sameNode(again, r.nodes[i]) {
						t.Fatalf("%s: Node(%d) is %v, error %d", s.name, page, again, int(e))
					}
					scribbleNode(again)
					i++
				}
				b.told("answers were changed")
				b.getAll()
			}
		}
	}
}

// R3: answers stay as they were when the tree is changed.
func TestAnswersStay(t *testing.T) {
	s := sorts[4]
	b := grown(t, 400, 4, s, 100)
	root, _ := b.x.Root()
	val, e := b.x.Get(s.key(7))
	wantErr(t, "Get", e, api.OK)
	n, e := b.x.Node(root, 1)
	wantErr(t, "Node", e, api.OK)
	pages, e := b.x.Pages()
	wantErr(t, "Pages", e, api.OK)
	was := fmt.Sprint(val, n, pages)
	for i := range 100 {
		b.put(s.key(i), []byte("another"))
		b.delete(s.key(i * 2))
	}
	if fmt.Sprint(val, n, pages) != was {
		t.Fatal("answers changed with the tree")
	}
}

// R4: empty and nil keys and values are the same.
func TestEmptyAndNil(t *testing.T) {
	var told []string
	for _, none := range [][]byte{nil, {}} {
		b := empty(t, 20, 2)
		b.put(none, none)
		b.put([]byte("a"), none)
		b.get(none)
		b.delete(none)
		b.get([]byte("a"))
		told = append(told, b.as())
	}
	if told[0] != told[1] {
		t.Fatal("empty and nil differ")
	}
}

// R6: the same calls answer the same, and write the same.
func TestTheSameCallsAnswerTheSame(t *testing.T) {
	live := func() string {
		r := draws(5)
		b := empty(t, 60, 4)
		for range 500 {
			b = b.step(&r)
		}
		return b.as() + fmt.Sprint(b.d.Ops(), b.d.Image())
	}
	first := live()
	for range 3 {
		if live() != first {
			t.Fatal("the same calls answered something else")
		}
	}
}

// THE BOUND: a tree that fills the greatest device, in time: each call goes down the way alone, or through all nodes once.
func TestTheGreatestTreeInTime(t *testing.T) {
	t.Parallel()
	s := sorts[2]
	b := empty(t, api.MaxPages, api.MaxCache)
	order := s.order(3500)
	for n, i := range order {
		wantErr(t, "Put", b.put(s.key(i), s.val(i)), api.OK)
		if n%100 == 0 {
			wantErr(t, "Commit", b.commit(), api.OK)
		}
	}
	_, height := b.x.Root()
	if height < 5 || height > 6 {
		t.Errorf("the height is %d", height)
	}
	b.told("all Puts")
	b.getAll()
	hits, misses := b.p.Counts()
	b.get(s.key(7))
	if h, m := b.p.Counts(); h+m != hits+misses+height {
		t.Errorf("Get has read %d pages", h+m-hits-misses)
	}
	for n, i := range order {
		wantErr(t, "Delete", b.delete(s.key(i)), api.OK)
		if n%100 == 0 {
			wantErr(t, "Commit", b.commit(), api.OK)
		}
	}
	if root, height := b.x.Root(); root != 0 || height != 0 || !slices.Equal(b.p.Taken(), append([]int{0, 1}, b.p.Maps()...)) {
		t.Errorf("nothing is left, but the root is %d, the height %d, and %v are taken", root, height, b.p.Taken())
	}
}
