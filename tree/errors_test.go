package tree_test

import (
	"fmt"
	"slices"
	"testing"

	"incipit/api"
	"incipit/disk"
	"incipit/pager"
)

// cut takes a device's power away, by a write of a page as it shows.
func cut(t *testing.T, d *disk.Disk) {
	t.Helper()
	page := d.Pages() - 1
	as, e := d.Read(page)
	wantErr(t, "disk.Read", e, api.OK)
	wantErr(t, "Arm", d.Arm(0), api.OK)
	wantErr(t, "disk.Write", d.Write(page, as), api.ErrPower)
}

// wantDead asks that each call that must read or write answers ErrPower.
func (b *both) wantDead() {
	b.t.Helper()
	root, height := b.x.Root()
	for _, key := range [][]byte{{0}, []byte("a"), two(7), sorts[2].key(9)} {
		want := api.ErrPower
		if height == 0 {
			want = api.ErrNone // nothing need be read
		}
		wantGetErr(b.t, b.x.Get, key, want)
		wantErr(b.t, b.what+": Delete", b.x.Delete(key), want)
		wantErr(b.t, b.what+": Put", b.x.Put(key, nil), api.ErrPower)
	}
	for depth := 1; depth <= height; depth++ {
		wantNodeErr(b.t, b.x, root, depth, api.ErrPower)
	}
	for page, n := range b.x.Nodes() {
		b.t.Fatalf("%s: Nodes tells %d, %v without power", b.what, page, n)
	}
	want := api.ErrPower
	if height == 0 {
		want = api.OK
	}
	if l, e := b.x.Pages(); l != nil || e != want {
		b.t.Fatalf("%s: Pages answers %v, error %d", b.what, l, int(e))
	}
	if r, h := b.x.Root(); r != root || h != height || b.x.Pager() != b.p {
		b.t.Fatalf("%s: the root was %d, and is %d", b.what, root, r)
	}
}

// P11.2: the power gone at each write and Sync of a life: it is told as ErrPower, then and from then on; behind the crash the tree is what the last commit had, or the one in which the power went.
func TestPower(t *testing.T) {
	t.Parallel()
	for n, s := range sorts {
		for left := 0; ; left += 1 + left/20 {
			if left > 10000 {
				t.Fatal("a life that does not end")
			}
			r := draws(n)
			b := empty(t, 200, 2+n%3)
			b.what = fmt.Sprintf("%s, %d left", s.name, left)
			wantErr(t, "Arm", b.d.Arm(left), api.OK)
			doubt := b.live(s, &r)
			if b.d.On() {
				break
			}
			b.wantDead()
			for _, picks := range [][]uint8{nil, slices.Repeat([]uint8{4}, b.d.Waits())} {
				b.behindCrash(picks, doubt)
			}
		}
	}
}

// live does drawn acts, till the power is gone: what the commit had in which it went, if there is one.
func (b *both) live(s sort, r *draws) map[string]string {
	b.t.Helper()
	for n := 0; n < 250 && b.d.On(); n++ {
		b.act(s, r, 100)
		if n%20 != 19 || !b.d.On() {
			continue
		}
		if e := b.commit(); (e == api.OK) != b.d.On() {
			b.t.Fatalf("%s: Commit answers %d", b.what, int(e))
		} else if e != api.OK {
			return b.m
		}
	}
	return nil
}

// behindCrash crashes a copy of the device, and asks for the tree behind it.
func (b *both) behindCrash(picks []uint8, doubt map[string]string) {
	b.t.Helper()
	d := b.d.Clone()
	wantErr(b.t, "Crash", d.Crash(picks...), api.OK)
	p, e := pager.Open(d, 3)
	wantErr(b.t, b.what+": Open", e, api.OK)
	m := b.last
	if doubt != nil && p.Epoch() == b.p.Epoch()+1 {
		m = doubt
	}
	next := b.anew(p, m)
	next.d = d
	next.told("a crash")
	next.getAll()
	next.put([]byte("on"), nil)
	next.right("Put behind a crash")
}

// wayTo is the pages on the way to a key, by a reading.
func (r *reading) wayTo(key string) []int {
	var way []int
	for page := r.pages[0]; ; {
		way = append(way, page)
		n := r.nodes[slices.Index(r.pages, page)]
		if n.Leaf {
			return way
		}
		i := 0
		for i < len(n.Keys) && string(n.Keys[i]) <= key {
			i++
		}
		page = n.Kids[i]
	}
}

// beside answers whether a page stands next to one on a way.
func (r *reading) beside(page int, way []int) bool {
	for _, n := range r.nodes {
		i := slices.Index(n.Kids, page)
		if i < 0 {
			continue
		}
		return i > 0 && slices.Contains(way, n.Kids[i-1]) || i+1 < len(n.Kids) && slices.Contains(way, n.Kids[i+1])
	}
	return false
}

// P11.2: a page that was spoilt, each in turn, is told as it comes by the calls that read it: those whose way leads over it, and Puts and Deletes for which a node beside the way is joined.
func TestSpoiltPages(t *testing.T) {
	s := sorts[2]
	base := grown(t, 200, 8, s, 50)
	r := base.right("all Puts")
	joined := 0
	for i, page := range r.pages {
		for want, bad := range map[api.Errno][]byte{
			api.ErrSum:  []byte("spoilt"),
			api.ErrKind: plainFrame(7-kindOf(r.nodes[i]), page, plainBytes(r.nodes[i])),
			api.ErrPage: plainFrame(kindOf(r.nodes[i]), page^1, plainBytes(r.nodes[i])),
			api.ErrNode: plainFrame(kindOf(r.nodes[i]), page, []byte{1}),
		} {
			p, e := pager.Open(base.d.Clone(), 8)
			wantErr(t, "Open", e, api.OK)
			wantErr(t, "PutRaw", p.PutRaw(page, bad), api.OK)
			for n := range 52 {
				key := s.key(n)
				way := r.wayTo(string(key))
				over := slices.Contains(way, page)
				for _, act := range []func(b *both) api.Errno{
					func(b *both) api.Errno { return b.x.Delete(key) },
					func(b *both) api.Errno { return b.x.Put(key, nil) },
				} {
					b := base.anew(p, base.last)
					if over {
						wantGetErr(t, b.x.Get, key, want)
					} else {
						b.get(key)
					}
					switch e := act(b); {
					case over && e != want:
						t.Fatalf("page %d is spoilt: error %d, not %d", page, int(e), int(want))
					case over:
					case e == want && r.beside(page, way):
						joined++
					case e != api.OK && e != api.ErrNone:
						t.Fatalf("page %d is spoilt, beside the way %v: error %d", page, way, int(e))
					}
					wantErr(t, "Abort", p.Abort(), api.OK)
				}
			}
		}
	}
	if joined == 0 {
		t.Error("no neighbour was read")
	}
}

// P11.2: a page of the way that is free is told as it comes: ErrNone of a page, though the key was not looked for.
func TestPagesThatAreNotThere(t *testing.T) {
	_, p := formatted(t, 20, 2)
	x := at(t, p, 9, 1)
	wantGetErr(t, x.Get, []byte("a"), api.ErrNone)
	wantErr(t, "Put", x.Put([]byte("a"), nil), api.ErrNone)
	wantErr(t, "Delete", x.Delete([]byte("a")), api.ErrNone)
	far := at(t, p, lay(t, p, innerWith([]int{20, 2047}, "m")), 2)
	for _, key := range []string{"a", "z"} {
		wantGetErr(t, far.Get, []byte(key), api.ErrArg)
		wantErr(t, "Put", far.Put([]byte(key), nil), api.ErrArg)
		wantErr(t, "Delete", far.Delete([]byte(key)), api.ErrArg)
	}
}
