package pager_test

import (
	"bytes"
	"fmt"
	"slices"
	"testing"

	"incipit/api"
)

// The chapter's example.
func TestExample(t *testing.T) {
	b := formatted(t, 8, 2)
	if !slices.Equal(b.p.Maps(), []int{2}) {
		t.Fatal("the map is", b.p.Maps())
	}
	if page, e := b.p.New(api.KindLeaf, nil); page != 3 || e != api.OK {
		t.Fatal("New is", page, e)
	}
	for _, want := range []int{4, 2, 4, 2} {
		wantErr(t, "Commit", b.p.Commit(nil), api.OK)
		if !slices.Equal(b.p.Maps(), []int{want}) {
			t.Fatal("the new map is", b.p.Maps(), "and not", want)
		}
	}
}

// wantCommitted asks what a commit left on the device, page by page: the head, beside the one ahead of it, and all pages that are taken.
func (b *both) wantCommitted(before []byte) {
	b.t.Helper()
	want := b.d.Image()
	at := int(b.m.epoch % 2)
	copy(want[at*256:], plainHead(b.m.epoch, len(b.m.page), b.m.maps, b.m.user))
	copy(want[(1-at)*256:][:256], before[(1-at)*256:])
	for _, p := range b.m.taken()[2:] {
		copy(want[p*256:], b.m.bears[p])
	}
	wantImage(b.t, b.what+": behind Commit", b.d, want)
	if b.d.Waits() != 0 {
		b.t.Fatalf("%s: behind Commit %d writes wait", b.what, b.d.Waits())
	}
}

// P9.4: Commit: the epoch, the maps (the lowest free pages), the user's bytes; what was held is free, the old maps too; nothing is of this transaction; all of it is stable.
func TestCommit(t *testing.T) {
	for _, pages := range []int{16, 64, 1024, 1025} {
		for _, size := range []int{2, 3, 64} {
			if pages > 64 && size == 3 {
				continue
			}
			x := mixture(t, pages, size)
			for round := range 6 {
				lowest := x.m.those(isFree)[:plainNeed(pages)]
				old, epoch, taken := x.p.Maps(), x.p.Epoch(), x.p.Taken()
				before := x.d.Image()
				user := bytes.Repeat([]byte{byte(round + 1)}, round*6)
				wantErr(t, "Commit", x.commit(user), api.OK)
				x.told("Commit")
				if x.p.Epoch() != epoch+1 || !slices.Equal(x.p.Maps(), lowest) || !bytes.Equal(x.p.User(), user) {
					t.Fatalf("epoch %d, maps %v, user's bytes %v", x.p.Epoch(), x.p.Maps(), x.p.User())
				}
				for _, page := range append(old, lowest...) {
					if is := slices.Contains(x.p.Taken(), page); is != slices.Contains(lowest, page) {
						t.Fatalf("page %d is taken: %v; maps were %v, and are %v", page, is, old, lowest)
					}
				}
				if len(x.p.Taken()) != len(taken) || x.p.Avail() != pages-len(taken) {
					t.Fatalf("%d pages are taken, %d are free", len(x.p.Taken()), x.p.Avail())
				}
				x.wantCommitted(before)
				x.readAll("Commit")
				opened(t, x.d, 2).readAll("Open")
				l := x.takes(2)
				x.ok(x.free(l[0]), x.putRaw(x.oldRaw, user), x.free(l[1]))
				if round == 3 {
					x.ok(x.free(x.oldLeaf))
				}
			}
		}
	}
}

// P9.4: the maps say which pages are taken behind the commit, the new maps among them, and not the old ones.
func TestMapsBearWhatIsTaken(t *testing.T) {
	for _, pages := range []int{12, 1030, 2048} {
		b := formatted(t, pages, 2)
		for range 5 {
			b.takes(1)
			b.ok(b.commit(nil))
			for i, page := range b.p.Maps() {
				got, e := b.p.Read(page, api.KindMap)
				if e != api.OK || !bytes.Equal(got, plainMap(b.p.Taken(), i)) {
					t.Fatalf("map %d bears %v, %d; taken are %v", i, got, int(e), b.p.Taken())
				}
				if raw, e := b.p.Raw(page); e != api.OK || !bytes.Equal(raw, plainFrame(api.KindMap, page, b.p.Epoch(), got)) {
					t.Fatalf("map %d is %v, %d", i, raw, int(e))
				}
			}
		}
	}
}

// P9.4: of up to MaxUser bytes of the user all are told; with more nothing is done, and the transaction is open still.
func TestUsersBytes(t *testing.T) {
	r := draws(3)
	x := mixture(t, 30, 3)
	for _, n := range []int{0, 1, 7, 31, 32} {
		user := r.bytes(n)
		wantErr(t, "Commit", x.commit(user), api.OK)
		if !bytes.Equal(x.p.User(), user) {
			t.Fatalf("user's bytes are %v, not %v", x.p.User(), user)
		}
		other := opened(t, x.d, 2)
		if !bytes.Equal(other.p.User(), user) {
			t.Fatalf("opened: user's bytes are %v, not %v", other.p.User(), user)
		}
		l := x.takes(2)
		x.ok(x.putRaw(x.oldRaw, r.bytes(9)), x.free(l[0]), x.put(l[1], api.KindLeaf, nil))
		for _, more := range []int{33, 34, 64, 240, 256, 288, 65536 + 1} {
			image, waits, ops := x.d.Image(), x.d.Waits(), x.d.Ops()
			wantErr(t, fmt.Sprintf("Commit(%d bytes)", more), x.commit(make([]byte, more)), api.ErrLong)
			x.told("ErrLong")
			if !bytes.Equal(x.d.Image(), image) || x.d.Waits() != waits || x.d.Ops() != ops {
				t.Fatal("the device was changed")
			}
			if !x.p.Mine(l[1]) || x.p.Mine(l[0]) {
				t.Fatal("the transaction is not as it was")
			}
		}
		x.readAll("ErrLong")
	}
}

// P9.4: where fewer pages are free than there are maps Commit is ErrFull, and all is as behind Abort; ErrLong stands ahead of it.
func TestCommitWithoutRoom(t *testing.T) {
	for _, pages := range []int{16, 1025} {
		for left := range plainNeed(pages) {
			for _, size := range []int{2, 64} {
				x := mixture(t, pages, size)
				x.ok(x.putRaw(x.oldRaw, []byte("in place")), x.free(x.oldLeaf))
				for x.p.Avail() > left {
					_, e := x.newRaw([]byte("one's own"))
					x.ok(e)
				}
				wantErr(t, "Commit of too many", x.commit(make([]byte, 33)), api.ErrLong)
				x.told("ErrLong")
				ops := x.d.Ops()
				wantErr(t, "Commit", x.commit([]byte("user")), api.ErrFull)
				x.told("ErrFull")
				if x.p.Epoch() != 2 || string(x.p.User()) != "before" || !x.p.On() || x.d.Ops() != ops {
					t.Fatal(x.p.Epoch(), x.p.User(), x.p.On())
				}
				x.readAll("ErrFull")
				if !slices.Equal(x.p.Taken(), x.last.taken()) {
					t.Fatal("taken are", x.p.Taken(), "and not", x.last.taken())
				}
				wantErr(t, "Raw of what was put in place", x.raw(x.oldRaw), api.OK)
				x.takes(1)
				wantErr(t, "Commit", x.commit([]byte("after")), api.OK)
				x.readAll("Commit")
				opened(t, x.d, 2).readAll("Open")
			}
		}
	}
}

// P9.4: with just as many free pages as there are maps a commit has room, also where all else is held.
func TestCommitWithJustRoom(t *testing.T) {
	for _, pages := range []int{8, 16, 1025} {
		b := formatted(t, pages, 2)
		for b.p.Avail() > plainNeed(pages) {
			_, e := b.newRaw([]byte{1})
			b.ok(e)
		}
		b.ok(b.commit(nil))
		b.told("Commit")
		if b.p.Avail() != plainNeed(pages) {
			t.Fatal("free are", b.p.Avail())
		}
		for _, page := range b.p.Taken()[2:] {
			b.free(page)
		}
		b.ok(b.commit(nil)) // what was held had no part in it
		b.told("all let go")
		if len(b.p.Taken()) != 2+plainNeed(pages) {
			t.Fatal("taken are", b.p.Taken())
		}
		b.readAll("Commit")
		opened(t, b.d, 3).readAll("Open")
	}
}

// P9.4: commits of nothing: the epoch goes on, and the two heads take turns.
func TestCommitsOfNothing(t *testing.T) {
	b := formatted(t, 9, 2)
	for epoch := uint64(2); epoch < 40; epoch++ {
		before := b.d.Image()
		b.ok(b.commit([]byte{byte(epoch)}))
		b.wantCommitted(before)
		b.told("Commit")
		if b.p.Epoch() != epoch {
			t.Fatal("epoch", b.p.Epoch(), "is not", epoch)
		}
	}
}

// acts are each kind of act, on a mixture.
func acts() map[string]func(x *mixed) {
	return map[string]func(x *mixed){
		"nothing": func(x *mixed) {},
		"New": func(x *mixed) {
			_, e := x.new(api.KindInner, []byte("new"))
			x.ok(e)
		},
		"NewRaw": func(x *mixed) {
			_, e := x.newRaw([]byte("new"))
			x.ok(e)
		},
		"all pages": func(x *mixed) {
			for x.p.Avail() > 0 {
				_, e := x.new(api.KindInner, nil)
				x.ok(e)
			}
		},
		"Put":                     func(x *mixed) { x.ok(x.put(x.mineLeaf, api.KindMap, []byte("put")), x.put(x.mineRaw, 1, nil)) },
		"PutRaw of one's own":     func(x *mixed) { x.ok(x.putRaw(x.mineRaw, []byte("put")), x.putRaw(x.mineLeaf, nil)) },
		"PutRaw in place":         func(x *mixed) { x.ok(x.putRaw(x.oldRaw, []byte("in place"))) },
		"PutRaw in place, twice":  func(x *mixed) { x.ok(x.putRaw(x.oldRaw, []byte("in place")), x.putRaw(x.oldRaw, []byte("again"))) },
		"PutRaw over a frame":     func(x *mixed) { x.ok(x.putRaw(x.oldLeaf, []byte("in place"))) },
		"Free":                    func(x *mixed) { x.ok(x.free(x.oldLeaf), x.free(x.oldRaw)) },
		"Free of one's own":       func(x *mixed) { x.ok(x.free(x.mineLeaf), x.free(x.mineRaw)) },
		"PutRaw, Free":            func(x *mixed) { x.ok(x.putRaw(x.oldRaw, []byte("in place")), x.free(x.oldRaw)) },
		"Free, and others in all": func(x *mixed) { x.ok(x.free(x.mineLeaf)); x.takes(x.p.Avail()) },
		"reads": func(x *mixed) {
			for page := range x.m.page {
				x.raw(page)
			}
		},
		"errors": func(x *mixed) {
			x.new(9, nil)
			x.newRaw(make([]byte, 257))
			x.put(x.oldLeaf, 3, nil)
			x.putRaw(x.atMap, nil)
			x.free(x.atMap)
			x.commit(make([]byte, 33))
		},
	}
}

// P9.4: Abort behind each kind of act: what is free, taken and of this transaction is as behind the last commit; so are framed pages; raw ones that were put in place stay as they were put.
func TestAbortBehindEachAct(t *testing.T) {
	for what, act := range acts() {
		for _, size := range []int{2, 64} {
			x := mixture(t, 20, size)
			x.what = what
			act(x)
			put, e := x.p.Raw(x.oldRaw)
			wantErr(t, what+": Raw", e, api.OK)
			wantErr(t, what+": Abort", x.abort(), api.OK)
			x.readAll("Abort")
			if !slices.Equal(x.p.Taken(), x.last.taken()) || x.p.Avail() != 20-len(x.last.taken()) || x.p.Epoch() != 2 || string(x.p.User()) != "before" {
				t.Fatalf("%s: taken are %v, free %d, epoch %d, user's bytes %q", what, x.p.Taken(), x.p.Avail(), x.p.Epoch(), x.p.User())
			}
			for page := range 20 {
				if x.p.Mine(page) {
					t.Fatalf("%s: page %d is of this transaction", what, page)
				}
			}
			if got, e := x.p.Raw(x.oldRaw); e != api.OK || !bytes.Equal(got, put) {
				t.Fatalf("%s: what was put in place is %v, %d", what, got, int(e))
			}
			if got, e := x.p.Read(x.heldLeaf, api.KindLeaf); e != api.OK || got[0] != 2 {
				t.Fatalf("%s: a framed page that was let go: %v, %d", what, got, int(e))
			}
			wantErr(t, what+": Abort again", x.abort(), api.OK)
			x.readAll("Abort again")
			x.takes(3)
			x.ok(x.commit(nil))
			x.readAll("Commit")
			opened(t, x.d, 2).readAll("Open")
		}
	}
}

// P9.4: Commit behind each kind of act, then Abort: it changes nothing more.
func TestCommitBehindEachAct(t *testing.T) {
	for what, act := range acts() {
		x := mixture(t, 20, 3)
		x.what = what
		act(x)
		before := x.d.Image()
		full := x.p.Avail() == 0
		e := x.commit([]byte(what)[:min(len(what), 32)])
		if full != (e == api.ErrFull) {
			t.Fatalf("%s: Commit answers %d", what, int(e))
		}
		if e == api.OK {
			x.wantCommitted(before)
		}
		x.ok(x.abort())
		x.readAll("Abort")
	}
}

// P9.4: what was of an aborted transaction is handed out anew, with nothing of what it had.
func TestPagesOfAnAbortedTransaction(t *testing.T) {
	for _, size := range []int{2, 64} {
		b := formatted(t, 16, size)
		first := b.takes(8)
		b.ok(b.abort())
		if again := b.takes(8); !slices.Equal(again, first) {
			t.Fatal("pages", again, "are handed out, not", first)
		}
		b.ok(b.commit(nil))
		b.readAll("Commit")
	}
}

// P9.3, P9.4: what is of this transaction and is let go, or aborted, need not be written: a commit writes what it leads to, and no more.
func TestPagesThatAreLetGoAreNotWritten(t *testing.T) {
	for what, act := range map[string]func(b *both){
		"nothing": func(b *both) {},
		"Free": func(b *both) {
			for _, page := range b.takes(9) {
				b.ok(b.free(page))
			}
		},
		"Abort": func(b *both) {
			b.takes(9)
			b.ok(b.abort())
		},
	} {
		b := formatted(t, 30, 64)
		act(b)
		ops := b.d.Ops()
		b.ok(b.commit(nil))
		if b.d.Ops()-ops != 4 { // the map, Sync, the head, Sync
			t.Fatalf("%s: a commit of nothing takes %d writes and syncs", what, b.d.Ops()-ops)
		}
		b.readAll("Commit")
	}
}
