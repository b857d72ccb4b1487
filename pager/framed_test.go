package pager_test

import (
	"bytes"
	"fmt"
	"slices"
	"testing"

	"incipit/api"
)

// mixed is a pager with pages of each sort, of which these are some.
type mixed struct {
	*both
	oldLeaf, oldRaw, heldLeaf, heldRaw, mineLeaf, mineRaw, gone, spare, atMap int
}

// mixture makes it, on so many pages: old ones are those of the last commit, gone was taken and let go in this transaction.
func mixture(t *testing.T, pages, size int) *mixed {
	t.Helper()
	b := formatted(t, pages, size)
	l := b.takes(6)
	b.ok(b.commit([]byte("before")), b.free(l[2]), b.free(l[3]))
	k := b.takes(3)
	b.ok(b.free(k[2]))
	x := &mixed{both: b, oldLeaf: l[0], oldRaw: l[1], heldLeaf: l[2], heldRaw: l[3], mineLeaf: k[0], mineRaw: k[1], gone: k[2], spare: pages - 1, atMap: b.m.maps[0]}
	want := map[int]int{x.oldLeaf: isOld, x.oldRaw: isOld, x.heldLeaf: isHeld, x.heldRaw: isHeld, x.mineLeaf: isMine, x.mineRaw: isMine, x.gone: isFree, x.spare: isFree, x.atMap: isOld}
	for p, is := range want {
		if b.m.page[p] != is {
			t.Fatalf("page %d is %d, not %d", p, b.m.page[p], is)
		}
	}
	b.readAll("mixture")
	return x
}

// allPages are all pages, and far ones.
func (b *both) allPages() []int {
	l := slices.Clone(farPages)
	for p := range len(b.m.page) + 2 {
		l = append(l, p)
	}
	return l
}

// loads are what a frame bears, and, of more than 240 bytes, does not.
func loads() [][]byte {
	r := draws(9)
	return [][]byte{nil, {}, {0}, {7}, r.bytes(239), r.bytes(240), make([]byte, 240), r.bytes(241), r.bytes(256), make([]byte, 4096)}
}

// kinds are those of frames, and others.
var kinds = append([]int{1, 2, 3, 4}, noKinds...)

// P9.2: New takes the lowest free page, framed in the epoch behind the pager's; its errors take none.
func TestNew(t *testing.T) {
	for _, size := range []int{2, 5, 64} {
		x := mixture(t, 200, size)
		for _, kind := range kinds {
			for _, data := range loads() {
				lowest := slices.Index(x.m.page, isFree)
				page, e := x.new(kind, data)
				x.told(fmt.Sprintf("New(%d, %d bytes)", kind, len(data)))
				right := kind >= 1 && kind <= 4 && len(data) <= 240
				if right && (page != lowest || e != api.OK) || !right && e != noFrame(kind, data) {
					t.Fatalf("New(%d, %d bytes) answers %d, %d", kind, len(data), page, int(e))
				}
				if !right {
					continue
				}
				if got, e := x.p.Raw(page); e != api.OK || !bytes.Equal(got, plainFrame(kind, page, x.p.Epoch()+1, data)) {
					t.Fatalf("New(%d, %d bytes) laid %v, %d", kind, len(data), got, int(e))
				}
			}
		}
		x.readAll("all kinds")
	}
}

// P9.2: which of New's errors stands first: the kind's, then that of too many bytes, then ErrFull; a full pager tells what it told.
func TestNewWithoutRoom(t *testing.T) {
	for _, size := range []int{2, 64} {
		x := mixture(t, 16, size)
		for x.p.Avail() > 0 {
			_, e := x.new(api.KindMap, nil)
			x.ok(e)
		}
		for _, kind := range kinds {
			for _, data := range loads() {
				want := noFrame(kind, data)
				if want == api.OK {
					want = api.ErrFull
				}
				page, e := x.new(kind, data)
				if page != 0 || e != want {
					t.Fatalf("New(%d, %d bytes) answers %d, %d, not %d", kind, len(data), page, int(e), int(want))
				}
			}
		}
		x.readAll("ErrFull")
	}
}

// P9.2: Put of each page, as each kind, with each number of bytes: the first error that applies, and the frame in this transaction's epoch.
func TestPut(t *testing.T) {
	for _, size := range []int{2, 64} {
		x := mixture(t, 16, size)
		for _, kind := range kinds {
			for _, data := range loads() {
				for _, page := range x.allPages() {
					e := x.put(page, kind, data)
					if is := noFrame(kind, data); x.m.mine(page) && e != is {
						t.Fatalf("Put(%d, %d, %d bytes) answers %d, not %d", page, kind, len(data), int(e), int(is))
					}
				}
				x.told("Put")
			}
			x.readAll("Put")
		}
	}
}

// P9.2: Put's errors, each named: ErrArg, ErrNone, ErrShadow, then the frame's.
func TestPutInItsOrder(t *testing.T) {
	x := mixture(t, 16, 3)
	for _, c := range []struct {
		page int
		want api.Errno
	}{
		{-1, api.ErrArg}, {0, api.ErrArg}, {1, api.ErrArg}, {16, api.ErrArg}, {17, api.ErrArg},
		{x.spare, api.ErrNone}, {x.gone, api.ErrNone}, {x.heldLeaf, api.ErrNone}, {x.heldRaw, api.ErrNone},
		{x.oldLeaf, api.ErrShadow}, {x.oldRaw, api.ErrShadow}, {x.atMap, api.ErrShadow},
	} {
		wantErr(t, fmt.Sprintf("Put of page %d", c.page), x.put(c.page, api.KindLeaf, nil), c.want)
		wantErr(t, fmt.Sprintf("Put of page %d of no kind", c.page), x.put(c.page, 5, nil), c.want)
		wantErr(t, fmt.Sprintf("Put of page %d of too many", c.page), x.put(c.page, api.KindLeaf, make([]byte, 241)), c.want)
	}
	for _, page := range []int{x.mineLeaf, x.mineRaw} {
		wantErr(t, "Put of no kind", x.put(page, 5, make([]byte, 241)), api.ErrKind)
		wantErr(t, "Put of too many", x.put(page, 4, make([]byte, 241)), api.ErrLong)
		x.readAll("errors")
		wantErr(t, "Put", x.put(page, api.KindInner, []byte("inner")), api.OK)
	}
	x.readAll("Put")
	x.ok(x.commit(nil))
	x.readAll("Commit")
	wantErr(t, "Put of what was of the last transaction", x.put(x.mineLeaf, api.KindLeaf, nil), api.ErrShadow)
}

// P9.2: Read's errors, each named: ErrArg, ErrNone, then frame.Want's; held pages are read, and maps.
func TestReadInItsOrder(t *testing.T) {
	for _, size := range []int{2, 64} {
		x := mixture(t, 16, size)
		for _, c := range []struct {
			page, kind int
			want       api.Errno
		}{
			{-1, 3, api.ErrArg}, {0, 1, api.ErrArg}, {1, 1, api.ErrArg}, {16, 3, api.ErrArg}, {17, 9, api.ErrArg},
			{x.spare, 3, api.ErrNone}, {x.gone, 3, api.ErrNone}, {x.gone, 9, api.ErrNone},
			{x.oldLeaf, 3, api.OK}, {x.oldLeaf, 4, api.ErrKind}, {x.oldLeaf, 0, api.ErrKind},
			{x.heldLeaf, 3, api.OK}, {x.heldLeaf, 2, api.ErrKind},
			{x.mineLeaf, 3, api.OK}, {x.mineLeaf, 1, api.ErrKind},
			{x.oldRaw, 3, api.ErrSum}, {x.heldRaw, 3, api.ErrSum}, {x.mineRaw, 9, api.ErrSum},
			{x.atMap, 2, api.OK}, {x.atMap, 3, api.ErrKind},
		} {
			got, e := x.p.Read(c.page, c.kind)
			wantErr(t, fmt.Sprintf("Read(%d, %d)", c.page, c.kind), e, c.want)
			if e == api.OK && len(got) != 240 || e != api.OK && got != nil {
				t.Fatalf("Read(%d, %d) answers %d bytes", c.page, c.kind, len(got))
			}
		}
		for _, page := range x.allPages() {
			for _, kind := range kinds {
				x.read(page, kind)
			}
		}
		x.told("Read")
	}
}

// P9.2: what is read is what was put there last, whatever the cache holds.
func TestReadOfWhatWasPutLast(t *testing.T) {
	for _, size := range []int{2, 3, 64} {
		b := formatted(t, 40, size)
		l := b.takes(30)
		for round := range 4 {
			for i, page := range l {
				b.ok(b.put(page, 1+(i+round)%4, []byte{byte(round), byte(i)}))
			}
			for i, page := range l {
				got, e := b.p.Read(page, 1+(i+round)%4)
				if e != api.OK || len(got) != 240 || got[0] != byte(round) || got[1] != byte(i) || !bytes.Equal(got[2:], make([]byte, 238)) {
					t.Fatalf("cache %d, round %d: page %d has %v, %d", size, round, page, got, int(e))
				}
			}
		}
		b.readAll("Put")
		b.ok(b.commit(nil))
		b.readAll("Commit")
	}
}

// P9.2: a frame has the epoch in which it will count, also where a page was taken, let go and taken again.
func TestFramesInTheirEpoch(t *testing.T) {
	b := formatted(t, 12, 2)
	for epoch := uint64(2); epoch < 9; epoch++ {
		page, e := b.new(api.KindLeaf, nil)
		b.ok(e, b.free(page))
		again, e := b.new(api.KindInner, []byte{1})
		b.ok(e)
		if again != page {
			t.Fatal("page", again, "is taken, not", page)
		}
		if got, e := b.p.Raw(page); e != api.OK || !bytes.Equal(got, plainFrame(api.KindInner, page, epoch, []byte{1})) {
			t.Fatalf("epoch %d: %v, %d", epoch, got, int(e))
		}
		b.ok(b.commit(nil))
		if b.p.Epoch() != epoch {
			t.Fatal("epoch", b.p.Epoch(), "is not", epoch)
		}
		b.ok(b.free(page))
	}
}

// P9.2: New and Put read nothing: a page that is taken need not be whole on the device.
func TestNewOnRubbish(t *testing.T) {
	image := formattedImage(rubbish(16))
	b := opened(t, loaded(t, image), 2)
	for range 5 {
		_, e := b.new(api.KindLeaf, []byte("over it"))
		b.ok(e)
	}
	b.readAll("New")
	b.ok(b.commit(nil))
	b.readAll("Commit")
	opened(t, b.d, 2).readAll("Open")
}
