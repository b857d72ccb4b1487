package tree_test

import (
	"math"
	"testing"

	"incipit/api"
	"incipit/cache"
	"incipit/disk"
	"incipit/pager"
	"incipit/tree"
)

// someRoots are roots below 0, 0, 1, 2, the last page of so many, that number, and far ones; the low bits of some are those of a page.
func someRoots(pages int) []int {
	return []int{math.MinInt, math.MinInt + 3, -1 << 32, -1<<32 + 3, -65536 + 3, -256, -3, -2, -1, 0, 1, 2, 3, 7, pages - 2, pages - 1, pages, pages + 1, 2047, 2048, 2049, 65536, 65536 + 3, 1 << 31, 1 << 32, 1<<32 + 3, math.MaxInt - 1, math.MaxInt}
}

// someHeights are heights below 0, 0, 1, MaxHeight, one more, and far ones.
var someHeights = []int{math.MinInt, math.MinInt + 1, -1 << 32, -1<<32 + 1, -256 + 1, -8, -1, 0, 1, 2, 3, 7, 8, 9, 10, 16, 256, 256 + 1, 65536 + 1, 1 << 32, 1<<32 + 1, math.MaxInt}

// P11.1: roots and heights, each beside each; no page is read, whatever stands there.
func TestAt(t *testing.T) {
	for _, pages := range []int{8, 9, 100, 1024, 1025, 2047, 2048} {
		_, p := formatted(t, pages, 2)
		hits, misses := p.Counts()
		for _, root := range someRoots(pages) {
			for _, height := range someHeights {
				want := api.ErrArg
				if root == 0 && height == 0 || root >= 2 && root < pages && height >= 1 && height <= 8 {
					want = api.OK
				}
				x, e := tree.At(p, root, height)
				if e != want || (x == nil) != (e != api.OK) {
					t.Fatalf("%d pages: At(%d, %d) answers %v, error %d, not %d", pages, root, height, x, int(e), int(want))
				}
				if e != api.OK {
					continue
				}
				if r, h := x.Root(); r != root || h != height || x.Pager() != p {
					t.Fatalf("behind At(%d, %d) Root is %d, %d, Pager %p, not %p", root, height, r, h, x.Pager(), p)
				}
			}
		}
		if h, m := p.Counts(); h != hits || m != misses {
			t.Fatalf("%d pages: At has read: %d hits, %d misses", pages, h-hits, m-misses)
		}
	}
}

// noPagers are pagers that no call made.
func noPagers(t *testing.T) map[string]*pager.Pager {
	d, e := disk.New(8)
	wantErr(t, "disk.New", e, api.OK)
	refused, e := pager.Open(d, 2)
	wantErr(t, "Open of noughts", e, api.ErrHead)
	held, e := cache.New(d, 2)
	wantErr(t, "cache.New", e, api.OK)
	return map[string]*pager.Pager{"nil": nil, "zero": {}, "new": new(pager.Pager), "refused": refused, "a cache alone": {Cache: held}}
}

// P11.1, R2: ErrMade stands ahead of ErrArg.
func TestAtOfPagersThatNoCallMade(t *testing.T) {
	for what, p := range noPagers(t) {
		for _, root := range someRoots(8) {
			for _, height := range someHeights {
				if x, e := tree.At(p, root, height); x != nil || e != api.ErrMade {
					t.Fatalf("%s: At(%d, %d) answers %v, error %d", what, root, height, x, int(e))
				}
			}
		}
	}
}

// P11.1: a tree is made also where the power is gone: no page is read.
func TestAtWithoutPower(t *testing.T) {
	d, p := formatted(t, 20, 2)
	cut(t, d)
	for _, root := range []int{2, 3, 19} {
		x := at(t, p, root, 1)
		if r, h := x.Root(); r != root || h != 1 || x.Pager() != p {
			t.Fatal("Root", r, h)
		}
	}
	at(t, p, 0, 0)
	if _, e := tree.At(p, 20, 1); e != api.ErrArg {
		t.Fatal("At", e)
	}
}

// P11.1: Root is as it is now, behind Puts and Deletes that change it; Pager stays.
func TestRootAndPager(t *testing.T) {
	s := sorts[2]
	b := empty(t, 400, 8)
	heights := map[int]bool{}
	for _, i := range s.order(120) {
		before, was := b.x.Root()
		mine := b.p.Mine(before)
		b.put(s.key(i), s.val(i))
		b.right("Put") // reads from the root that is told
		root, height := b.x.Root()
		if was > 0 && root == before && !mine {
			t.Fatalf("the root %d of the last commit stays", root)
		}
		heights[height] = true
		if i%10 == 0 {
			wantErr(t, "Commit", b.commit(), api.OK)
		}
	}
	for i := range 120 {
		b.delete(s.key(i))
		b.right("Delete")
		if b.x.Pager() != b.p {
			t.Fatal("Pager is another one")
		}
	}
	if root, height := b.x.Root(); root != 0 || height != 0 || !heights[1] || !heights[2] || !heights[3] {
		t.Fatal("the root is", root, "the height", height, "heights were", heights)
	}
}

// Two trees of one pager go their own ways: a tree keeps its root, and not another's.
func TestTreesOfOnePager(t *testing.T) {
	a := empty(t, 300, 4)
	b := &both{t: t, what: "the other one", d: a.d, p: a.p, x: at(t, a.p, 0, 0), m: map[string]string{}}
	s := sorts[4]
	for step, i := range s.order(150) {
		for n, x := range []*both{a, b} {
			x.put(s.key(i+n), s.val(i+step))
			if step%3 == 2 {
				x.delete(s.key(i + n))
			}
		}
		root, height := a.x.Root()
		other, high := b.x.Root()
		a.others = readTree(b.p, other, high).pages
		b.others = readTree(a.p, root, height).pages
		a.right("acts of both")
		b.right("acts of both")
		if step%20 == 0 {
			wantErr(t, "Commit", a.p.Commit(nil), api.OK)
		}
	}
}
