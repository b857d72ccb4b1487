package tree_test

import (
	"fmt"
	"slices"
	"testing"

	"incipit/api"
	"incipit/pager"
	"incipit/tree"
)

// depths are at which depth each page of a reading stands.
func (r *reading) depths() map[int]int {
	l := map[int]int{}
	if len(r.pages) > 0 {
		l[r.pages[0]] = 1
	}
	for i, page := range r.pages {
		for _, kid := range r.nodes[i].Kids {
			l[kid] = l[page] + 1
		}
	}
	return l
}

// P11.3: the node on each page, at each depth, below 1 and beyond the height.
func TestNode(t *testing.T) {
	for _, b := range someTrees(t) {
		r := b.right("all Puts")
		_, height := b.x.Root()
		stands := r.depths()
		for i, page := range r.pages {
			for _, depth := range append(slices.Clone(someHeights), height-1, height, height+1) {
				want, node := api.ErrArg, api.Node{}
				switch {
				case depth < 1 || depth > height:
				case (depth == height) != (stands[page] == height):
					want = api.ErrKind
				default:
					want, node = api.OK, r.nodes[i]
				}
				got, e := b.x.Node(page, depth)
				if e != want || !sameNode(got, node) {
					t.Fatalf("%s: Node(%d, %d) answers %v, error %d, not %v, error %d", b.what, page, depth, got, int(e), node, int(want))
				}
			}
		}
	}
}

// wantNodeErr asks for an error of Node, and nothing beside it.
func wantNodeErr(t *testing.T, x *tree.Tree, page, depth int, want api.Errno) {
	t.Helper()
	n, e := x.Node(page, depth)
	if e != want || !sameNode(n, api.Node{}) {
		t.Fatalf("Node(%d, %d) answers %v, error %d, not %d", page, depth, n, int(e), int(want))
	}
}

// P11.3: pages that are not there, that are free, raw, of another kind, from elsewhere, or that bear no node: the errors of pager.Read and node.Get.
func TestNodeOfOtherPages(t *testing.T) {
	b := grown(t, 60, 3, sorts[2], 40)
	_, height := b.x.Root()
	for depth := 1; depth <= height; depth++ {
		for _, page := range someRoots(60) {
			switch {
			case page < 2 || page >= 60:
				wantNodeErr(t, b.x, page, depth, api.ErrArg)
			case page == 59:
				wantNodeErr(t, b.x, page, depth, api.ErrNone)
			}
		}
		for _, page := range b.p.Maps() {
			wantNodeErr(t, b.x, page, depth, api.ErrKind)
		}
	}
	for what, want := range badPages(t, b.p) {
		wantNodeErr(t, b.x, what.page, height, want)
		wantNodeErr(t, b.x, what.page, 1, want)
	}
}

// badPage is a page of which no node is read.
type badPage struct {
	page int
	what string
}

// badPages lays pages of which no node is read, and says with which error, at whatever depth.
func badPages(t *testing.T, p *pager.Pager) map[badPage]api.Errno {
	t.Helper()
	l := map[badPage]api.Errno{}
	raw := func(what string, want api.Errno, of func(page int) []byte) {
		page, e := p.NewRaw(nil)
		wantErr(t, "NewRaw", e, api.OK)
		wantErr(t, "PutRaw", p.PutRaw(page, of(page)), api.OK)
		l[badPage{page, what}] = want
	}
	raw("noughts", api.ErrSum, func(int) []byte { return nil })
	raw("a raw page", api.ErrSum, func(int) []byte { return []byte("raw") })
	for _, kind := range []int{1, 2} {
		raw("another kind", api.ErrKind, func(page int) []byte { return plainFrame(kind, page, nil) })
	}
	for _, kind := range []int{0, 5, 255} {
		raw("no kind", api.ErrKind, func(page int) []byte { return plainFrame(kind, page, nil) })
	}
	raw("another page's", api.ErrPage, func(page int) []byte { return plainFrame(3, page+1, plainBytes(leafWith("a"))) })
	raw("a byte turned", api.ErrSum, func(page int) []byte {
		b := plainFrame(3, page, plainBytes(leafWith("a")))
		b[20] ^= 1
		return b
	})
	return l
}

// P11.3: pages of the right kind that bear no node: ErrNode.
func TestNodeOfWhatIsNone(t *testing.T) {
	_, p := formatted(t, 60, 3)
	falling := plainBytes(leafWith("b", "a"))
	for _, bears := range [][]byte{{1}, {1, 0, 0}, {255}, falling, {1, 1, 'a', 25}, append(plainBytes(leafWith("a")), 7), {1, 26}} {
		page, e := p.New(api.KindLeaf, bears)
		wantErr(t, "New", e, api.OK)
		wantNodeErr(t, at(t, p, page, 1), page, 1, api.ErrNode)
	}
	for _, bears := range [][]byte{nil, {1}, {0, 0, 5}, {1, 0, 5, 1, 'b', 0, 1}, {1, 0, 5, 1, 'b', 8, 0}, {1, 0, 5, 0, 0, 6}, {2, 0, 5, 1, 'b', 0, 6, 1, 'b', 0, 7}, {1, 0, 5, 1, 'b', 0, 6, 7}} {
		page, e := p.New(api.KindInner, bears)
		wantErr(t, "New", e, api.OK)
		wantNodeErr(t, at(t, p, page, 2), page, 1, api.ErrNode)
	}
}

// P11.3: the empty tree has no depth, no node, no page.
func TestNodesOfTheEmptyTree(t *testing.T) {
	b := empty(t, 20, 2)
	for _, depth := range someHeights {
		for _, page := range someRoots(20) {
			wantNodeErr(t, b.x, page, depth, api.ErrArg)
		}
	}
	b.told("nothing")
	if l, e := b.x.Pages(); len(l) != 0 || e != api.OK {
		t.Fatal("Pages", l, e)
	}
}

// P11.3: Nodes gone through to its end, and left at each node; and again, and within itself.
func TestNodes(t *testing.T) {
	for _, b := range someTrees(t) {
		r := b.right("all Puts")
		nodes := b.x.Nodes()
		for end := 0; end <= len(r.pages); end++ {
			i := 0
			for page, n := range nodes {
				if page != r.pages[i] || !sameNode(n, r.nodes[i]) {
					t.Fatalf("%s: the %d-th is %d, %v, not %d, %v", b.what, i, page, n, r.pages[i], r.nodes[i])
				}
				i++
				if i == end {
					break
				}
			}
			if i != end && i != len(r.pages) {
				t.Fatalf("%s: left behind %d, not %d", b.what, i, end)
			}
		}
		b.told("Nodes")
	}
	b := grown(t, 100, 2, sorts[2], 20)
	count := 0
	nodes := b.x.Nodes()
	for range nodes {
		for range nodes {
			count++
		}
	}
	if pages, _ := b.x.Pages(); count != len(pages)*len(pages) {
		t.Fatal("ranged over within itself, Nodes tells", count)
	}
}

// R3: Nodes tells what was there when one began to range over it, whatever is put and deleted meanwhile, or whether the power goes; ranged over again it tells what is there then.
func TestNodesWhileTheTreeIsChanged(t *testing.T) {
	s := sorts[4]
	for _, committed := range []bool{false, true} {
		b := grown(t, 400, 4, s, 60)
		if !committed {
			for i := range 60 {
				b.put(s.key(i), s.val(i+1))
			}
		}
		nodes := b.x.Nodes()
		for round := range 4 {
			r := b.right("all of it")
			i := 0
			for page, n := range nodes {
				if i >= len(r.pages) || page != r.pages[i] || !sameNode(n, r.nodes[i]) {
					t.Fatalf("the %d-th is %d, %v", i, page, n)
				}
				b.delete(s.key(i + 20*round))
				b.put(s.key(100*round+i+60), s.val(i))
				i++
			}
			if i != len(r.pages) {
				t.Fatalf("Nodes tells %d, not %d", i, len(r.pages))
			}
		}
		want := len(b.right("all of it").pages)
		i := 0
		for range nodes {
			if i == 0 {
				cut(t, b.d)
			}
			i++
		}
		if i != want {
			t.Fatalf("the power went: Nodes tells %d, not %d", i, want)
		}
		for range nodes {
			t.Fatal("Nodes tells something without power")
		}
	}
}

// P11.3: a page that can't be read, each in turn: Nodes ends ahead of it, Pages answers its error.
func TestNodesUpToAPageThatCantBeRead(t *testing.T) {
	b := grown(t, 200, 4, sorts[2], 80)
	r := b.right("all Puts")
	stands := r.depths()
	_, height := b.x.Root()
	other := map[bool]int{true: 4, false: 3}
	for i, page := range r.pages {
		leaf := stands[page] == height
		was, e := b.p.Raw(page)
		wantErr(t, "Raw", e, api.OK)
		for want, bad := range map[api.Errno][]byte{
			api.ErrSum:  []byte("spoilt"),
			api.ErrKind: plainFrame(other[leaf], page, plainBytes(r.nodes[i])),
			api.ErrPage: plainFrame(other[!leaf], page^1, plainBytes(r.nodes[i])),
			api.ErrNode: plainFrame(other[!leaf], page, []byte{1}),
		} {
			wantErr(t, "PutRaw", b.p.PutRaw(page, bad), api.OK)
			var told []int
			for p := range b.x.Nodes() {
				told = append(told, p)
			}
			l, e := b.x.Pages()
			if !slices.Equal(told, r.pages[:i]) || l != nil || e != want {
				t.Fatalf("page %d can't be read: Nodes tells %v, not %v; Pages %v, error %d, not %d", page, told, r.pages[:i], l, int(e), int(want))
			}
		}
		wantErr(t, "PutRaw", b.p.PutRaw(page, was), api.OK)
	}
	b.told("all of it")
}

// P11.3: of several pages that can't be read the first one's error is told.
func TestTheFirstPageThatCantBeRead(t *testing.T) {
	b := grown(t, 200, 4, sorts[2], 80)
	r := b.right("all Puts")
	last := len(r.pages) - 1
	wantErr(t, "PutRaw", b.p.PutRaw(r.pages[last], []byte("spoilt")), api.OK)
	wantErr(t, "PutRaw", b.p.PutRaw(r.pages[last-1], plainFrame(1, r.pages[last-1], nil)), api.OK)
	if l, e := b.x.Pages(); l != nil || e != api.ErrKind {
		t.Fatal("Pages", l, e)
	}
}

// P11.3: a page that stands there twice: Nodes ends ahead of where it does again, Pages answers ErrNode, unless a page can't be read.
func TestAPageThatStandsThereTwice(t *testing.T) {
	_, p := formatted(t, 60, 3)
	a, b, c := lay(t, p, leafWith("a")), lay(t, p, leafWith("m")), lay(t, p, leafWith("x"))
	const free = 59
	low, high := lay(t, p, innerWith([]int{a, b}, "m")), lay(t, p, innerWith([]int{b, c}, "x"))
	round := lay(t, p, leafWith("a"))
	relay(t, p, round, innerWith([]int{a, round}, "m"))
	for _, x := range []struct {
		kids   []int
		height int
		nodes  []int // behind the root
		want   api.Errno
	}{
		{[]int{a, b, c}, 2, []int{a, b, c}, api.OK},
		{[]int{a, a, c}, 2, []int{a}, api.ErrNode},
		{[]int{a, b, b}, 2, []int{a, b}, api.ErrNode},
		{[]int{a, b, a}, 2, []int{a, b}, api.ErrNode},
		{[]int{low, high, high}, 3, []int{low, a, b, high}, api.ErrNode},
		{[]int{low, low, high}, 3, []int{low, a, b}, api.ErrNode},
		{[]int{a, a, free}, 2, []int{a}, api.ErrNone},
		{[]int{free, a, a}, 2, nil, api.ErrNone},
		{[]int{a, a, low}, 2, []int{a}, api.ErrKind},
		{[]int{a, b, 60}, 2, []int{a, b}, api.ErrArg},
		{[]int{round, low, high}, 3, []int{round, a}, api.ErrKind},
		{[]int{low, high, round}, 4, []int{low}, api.ErrKind},
		{[]int{low, round, high}, 3, []int{low, a, b, round}, api.ErrKind},
	} {
		root := lay(t, p, innerWith(x.kids, "g", "p"))
		tr := at(t, p, root, x.height)
		var told []int
		for page := range tr.Nodes() {
			told = append(told, page)
		}
		what := fmt.Sprintf("the children %v at height %d", x.kids, x.height)
		if want := append([]int{root}, x.nodes...); !slices.Equal(told, want) {
			t.Errorf("%s: Nodes tells %v, not %v", what, told, want)
		}
		l, e := tr.Pages()
		if e != x.want || e != api.OK && l != nil {
			t.Errorf("%s: Pages answers %v, error %d, not %d", what, l, int(e), int(x.want))
		}
		wantWalk(t, what, tr)
	}
}

// P11.3: a root that leads to itself: where it is read as a leaf it is of another kind, else it stands there twice.
func TestARootThatLeadsToItself(t *testing.T) {
	for height := 1; height <= api.MaxHeight; height++ {
		_, p := formatted(t, 20, 3)
		root := lay(t, p, leafWith("a"))
		relay(t, p, root, innerWith([]int{root, root}, "m"))
		x := at(t, p, root, height)
		nodes, want := []int{root}, api.ErrNode
		switch height {
		case 1:
			nodes, want = nil, api.ErrKind
		case 2:
			want = api.ErrKind
		}
		var told []int
		for page := range x.Nodes() {
			told = append(told, page)
		}
		if l, e := x.Pages(); e != want || l != nil || !slices.Equal(told, nodes) {
			t.Errorf("height %d: Pages answers %v, error %d, not %d; Nodes tells %v", height, l, int(e), int(want), told)
		}
		wantGetErr(t, x.Get, []byte("a"), api.ErrKind)
		wantErr(t, "Put", x.Put([]byte("a"), nil), api.ErrKind)
		wantErr(t, "Delete", x.Delete([]byte("a")), api.ErrKind)
	}
}
