package tree_test

import (
	"fmt"
	"testing"

	"incipit/api"
	"incipit/pager"
)

// act does a Put, or a Delete, of a sort's keys that is drawn.
func (b *both) act(s sort, r *draws, count int) api.Errno {
	b.t.Helper()
	i := r.below(count)
	switch r.below(5) {
	case 0, 1:
		return b.delete(s.key(i))
	case 2:
		return b.put(s.key(i), s.val(r.below(count)))
	}
	return b.put(s.key(i), s.val(i))
}

// P11.6: what a tree was at a Commit is read from its root of then, as it was, behind any puts and deletes, up to the next Commit.
func TestShadow(t *testing.T) {
	t.Parallel()
	for _, s := range sorts {
		for _, size := range []int{2, 64} {
			b := empty(t, 1000, size)
			r := draws(size)
			for round := range 6 {
				b.what = fmt.Sprintf("%s, cache %d, round %d", s.name, size, round)
				wantErr(t, "Commit", b.commit(), api.OK)
				old := b.anew(b.p, b.last)
				was := readAt(b.p, old)
				for n := range 100 + 100*round {
					if b.act(s, &r, 200) == api.ErrFull {
						t.Fatal("there is no room")
					}
					if n%23 == 0 {
						old.unchanged("acts of the other tree", was)
						b.right("acts")
					}
				}
				old.unchanged("all acts", was)
				old.getAll()
				for key := range b.m {
					old.get([]byte(key))
				}
			}
		}
	}
}

// readAt is a tree as it stands, page by page.
func readAt(p *pager.Pager, b *both) string {
	root, height := b.x.Root()
	r := readTree(p, root, height)
	return fmt.Sprintf("%s %v %v", r.wrong, r.pages, r.nodes)
}

// unchanged asks that a tree stands as it did.
func (b *both) unchanged(call, was string) {
	b.t.Helper()
	if readAt(b.p, b) != was {
		b.t.Fatalf("%s: behind %s the tree of the last commit is another one", b.what, call)
	}
}

// P11.6, P11.2: behind an Abort, and At anew, the tree is as the last commit had it; so it is behind Open.
func TestAbortAndAtAnew(t *testing.T) {
	t.Parallel()
	for _, s := range sorts {
		b := empty(t, 600, 5)
		r := draws(31)
		for round := range 20 {
			b.what = fmt.Sprintf("%s, round %d", s.name, round)
			for range 40 {
				b.act(s, &r, 150)
			}
			wantErr(t, "Commit", b.commit(), api.OK)
			was := readAt(b.p, b)
			for range 1 + r.below(60) {
				b.act(s, &r, 150)
			}
			b = b.undone()
			b.unchanged("Abort", was)
			b.told("Abort")
			b.getAll()
			if round%5 == 4 {
				p, e := pager.Open(b.d, 3)
				wantErr(t, "Open", e, api.OK)
				b = b.anew(p, b.last)
				b.unchanged("Open", was)
				b.told("Open")
				b.getAll()
			}
		}
	}
}

// P11.6: no page of the last commit is written over: what the device has of them stays, byte by byte, till the next Commit.
func TestPagesOfTheLastCommitStay(t *testing.T) {
	s := sorts[4]
	b := grown(t, 500, 2, s, 150)
	root, height := b.x.Root()
	old := readTree(b.p, root, height).pages
	before := map[int]string{}
	for _, page := range old {
		raw, e := b.p.Raw(page)
		wantErr(t, "Raw", e, api.OK)
		before[page] = string(raw)
	}
	r := draws(5)
	for range 400 {
		b.act(s, &r, 150)
		for _, page := range old {
			shows, e := b.d.Read(page)
			wantErr(t, "disk.Read", e, api.OK)
			if raw, e := b.p.Raw(page); e != api.OK || string(raw) != before[page] || string(shows) != before[page] {
				t.Fatalf("page %d was written over", page)
			}
		}
	}
}

// P11.5: what is changed twice in a transaction is copied once: its pages are of this transaction then.
func TestPagesAreCopiedOnce(t *testing.T) {
	s := sorts[2]
	b := grown(t, 400, 8, s, 100)
	for i := range 100 {
		b.put(s.key(i), nil)
	}
	free := b.p.Avail()
	root, height := b.x.Root()
	for n := range 500 {
		b.put(s.key(n%100), []byte{})
	}
	if r, h := b.x.Root(); b.p.Avail() != free || r != root || h != height {
		t.Fatalf("%d pages were free, and %d are; the root was %d, and is %d", free, b.p.Avail(), root, r)
	}
	b.right("Puts")
}
