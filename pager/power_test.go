package pager_test

import (
	"fmt"
	"slices"
	"testing"

	"incipit/api"
)

// wantNothing asks that each call with an error answers that one, and nothing else, whatever it is given; and that all that is told stays as it is.
func (b *both) wantNothing(want api.Errno) {
	b.t.Helper()
	check := func(call string, page int, got []byte, e api.Errno) {
		b.t.Helper()
		if e != want || page != 0 || got != nil {
			b.t.Fatalf("%s: %s answers %d, %v, error %d, not %d", b.what, call, page, got, int(e), int(want))
		}
	}
	for _, page := range []int{-1 << 40, -1, 0, 1, 2, 3, 4, 5, 6, 7, 8, 11, 12, 1 << 40} {
		for _, kind := range []int{-1, 0, 1, 2, 3, 4, 5} {
			got, e := b.p.Read(page, kind)
			check("Read", 0, got, e)
			for _, data := range [][]byte{nil, {1}, make([]byte, 240), make([]byte, 257)} {
				check("Put", 0, nil, b.p.Put(page, kind, data))
				is, e := b.p.New(kind, data)
				check("New", is, nil, e)
			}
		}
		got, e := b.p.Raw(page)
		check("Raw", 0, got, e)
		for _, data := range [][]byte{nil, {1}, make([]byte, 256), make([]byte, 257)} {
			check("PutRaw", 0, nil, b.p.PutRaw(page, data))
			is, e := b.p.NewRaw(data)
			check("NewRaw", is, nil, e)
		}
		check("Free", 0, nil, b.p.Free(page))
	}
	for _, user := range [][]byte{nil, {1}, make([]byte, 32), make([]byte, 33)} {
		check("Commit", 0, nil, b.p.Commit(user))
	}
	check("Abort", 0, nil, b.p.Abort())
}

// P9.5: a device's power that went by another's write: all calls with an error answer ErrPower, also of pages that are held in the cache; what the others tell is what they told.
func TestPowerThatWentElsewhere(t *testing.T) {
	for _, size := range []int{2, 64} {
		x := mixture(t, 20, size)
		x.cut()
		ops, waits := x.d.Ops(), x.d.Waits()
		x.told("the power is gone")
		x.wantNothing(api.ErrPower)
		x.told("the power is gone, and calls")
		if x.p.On() || x.d.Ops() != ops || x.d.Waits() != waits {
			t.Fatal("On", x.p.On())
		}
	}
}

// acts that reach the device, with a cache of two pages that are changed: they must make room.
func reaching() map[string]func(x *mixed) api.Errno {
	return map[string]func(x *mixed) api.Errno{
		"New": func(x *mixed) api.Errno {
			_, e := x.new(api.KindLeaf, []byte("new"))
			return e
		},
		"NewRaw": func(x *mixed) api.Errno {
			_, e := x.newRaw([]byte("new"))
			return e
		},
		"Put":    func(x *mixed) api.Errno { return x.put(x.mineLeaf, api.KindLeaf, []byte("put")) },
		"PutRaw": func(x *mixed) api.Errno { return x.putRaw(x.oldRaw, []byte("put")) },
		"Read":   func(x *mixed) api.Errno { return x.read(x.oldLeaf, api.KindLeaf) },
		"Raw":    func(x *mixed) api.Errno { return x.raw(x.heldRaw) },
		"Commit": func(x *mixed) api.Errno { return x.commit([]byte("user")) },
	}
}

// P9.5, R2: the power that goes in a call, at the write that makes room: ErrPower, and it has changed nothing that is told; the pager is dead from then on.
func TestPowerThatGoesInACall(t *testing.T) {
	for what, act := range reaching() {
		x := mixture(t, 20, 2)
		x.what = what
		x.takes(2) // these two are held, and changed
		wantErr(t, "Arm", x.d.Arm(0), api.OK)
		wantErr(t, what, act(x), api.ErrPower)
		x.told(what)
		if x.p.On() || x.d.On() {
			t.Fatalf("%s: On is %v, the device's %v", what, x.p.On(), x.d.On())
		}
		x.wantNothing(api.ErrPower)
		x.told("calls of a dead one")
		wantErr(t, "Crash", x.d.Crash(), api.OK)
		if x.p.On() {
			t.Fatalf("%s: a dead pager is on again", what)
		}
		x.wantNothing(api.ErrPower)
		if x.d.Waits() != 0 {
			t.Fatalf("%s: a dead pager has written", what)
		}
	}
}

// P9.4, P9.5: the power gone at each write and each Sync of a commit: ErrPower; the epoch, the maps, the user's bytes, what is taken and of this transaction are told as ahead of it.
func TestPowerThatGoesInACommit(t *testing.T) {
	for _, pages := range []int{16, 1025} {
		for _, size := range []int{2, 4, 64} {
			for left := 0; ; left++ {
				if left > 100 {
					t.Fatal("a commit that does not end")
				}
				x := mixture(t, pages, size)
				x.what = fmt.Sprintf("%d pages, cache %d, %d left", pages, size, left)
				x.ok(x.putRaw(x.oldRaw, []byte("in place")), x.free(x.oldLeaf))
				taken, maps := x.p.Taken(), x.p.Maps()
				wantErr(t, "Arm", x.d.Arm(left), api.OK)
				if x.commit([]byte("user")) == api.OK {
					break
				}
				x.told("Commit")
				if !slices.Equal(x.p.Taken(), taken) || !slices.Equal(x.p.Maps(), maps) || x.p.Epoch() != 2 || string(x.p.User()) != "before" || !x.p.Mine(x.mineLeaf) {
					t.Fatal(x.what, "tells", x.p.Taken(), x.p.Maps(), x.p.Epoch(), x.p.User())
				}
				x.wantNothing(api.ErrPower)
				x.told("calls of a dead one")
				wantErr(t, "Crash", x.d.Crash(), api.OK)
				x.wantNothing(api.ErrPower)
				if x.p.On() || x.d.Waits() != 0 {
					t.Fatal(x.what, "is on again behind a crash, or has written")
				}
			}
		}
	}
}

// P9.5: drawn lives, the power gone at each write and each Sync of them: from then on all is ErrPower, and told as it was.
func TestLivesTillThePowerGoes(t *testing.T) {
	for seed := range 4 {
		pages, size := 10+seed*5, 2+seed
		for left := 0; ; left++ {
			if left > 1000 {
				t.Fatal("a life that does not end")
			}
			r := draws(seed + 800)
			b := formatted(t, pages, size)
			b.what = fmt.Sprintf("seed %d, %d left", seed, left)
			wantErr(t, "Arm", b.d.Arm(left), api.OK)
			for n := 0; n < 60 && b.d.On(); n++ {
				b.told(b.act(&r))
			}
			if b.d.On() {
				break
			}
			b.wantNothing(api.ErrPower)
			b.told("calls of a dead one")
			for range 10 {
				b.told(b.act(&r))
			}
		}
	}
}
