package pager_test

import (
	"bytes"
	"fmt"
	"slices"
	"testing"

	"incipit/api"
)

// rawLoads are what a raw page has, and, of more than 256 bytes, has not.
func rawLoads() [][]byte {
	r := draws(19)
	return [][]byte{nil, {}, {0}, {7}, r.bytes(64), r.bytes(240), r.bytes(241), r.bytes(255), r.bytes(256), make([]byte, 256), r.bytes(257), make([]byte, 257), r.bytes(4096)}
}

// P9.3: NewRaw takes the lowest free page, with these bytes and noughts behind them; of too many bytes none.
func TestNewRaw(t *testing.T) {
	for _, size := range []int{2, 64} {
		x := mixture(t, 40, size)
		for _, data := range rawLoads() {
			lowest := slices.Index(x.m.page, isFree)
			page, e := x.newRaw(data)
			x.told(fmt.Sprintf("NewRaw(%d bytes)", len(data)))
			if len(data) > 256 {
				if page != 0 || e != api.ErrLong {
					t.Fatalf("NewRaw(%d bytes) answers %d, %d", len(data), page, int(e))
				}
				continue
			}
			if page != lowest || e != api.OK {
				t.Fatalf("NewRaw(%d bytes) answers %d, %d", len(data), page, int(e))
			}
			if got, e := x.p.Raw(page); e != api.OK || !bytes.Equal(got, append(bytes.Clone(data), make([]byte, 256-len(data))...)) {
				t.Fatalf("NewRaw(%d bytes) has %v, %d", len(data), got, int(e))
			}
		}
		x.readAll("NewRaw")
	}
}

// P9.3: where no page is free NewRaw is ErrFull; too many bytes are told first.
func TestNewRawWithoutRoom(t *testing.T) {
	x := mixture(t, 16, 2)
	for x.p.Avail() > 0 {
		_, e := x.newRaw([]byte{1})
		x.ok(e)
	}
	for _, data := range rawLoads() {
		want := api.ErrFull
		if len(data) > 256 {
			want = api.ErrLong
		}
		if page, e := x.newRaw(data); page != 0 || e != want {
			t.Fatalf("NewRaw(%d bytes) answers %d, %d, not %d", len(data), page, int(e), int(want))
		}
	}
	x.readAll("ErrFull")
}

// P9.3: PutRaw of each page with each number of bytes: whether it is of this transaction or not it has these bytes, and noughts behind them.
func TestPutRaw(t *testing.T) {
	for _, size := range []int{2, 64} {
		x := mixture(t, 16, size)
		for _, data := range rawLoads() {
			for _, page := range x.allPages() {
				x.putRaw(page, data)
			}
			x.readAll(fmt.Sprintf("PutRaw(%d bytes)", len(data)))
		}
		x.ok(x.putRaw(x.oldRaw, []byte("in place")), x.putRaw(x.oldLeaf, []byte("over a frame")), x.putRaw(x.mineLeaf, nil), x.putRaw(x.mineRaw, []byte{1}))
		x.ok(x.commit(nil))
		x.readAll("Commit")
		opened(t, x.d, 2).readAll("Open")
	}
}

// P9.3: PutRaw's errors, each named: ErrArg, ErrNone, ErrShadow of a map, then ErrLong.
func TestPutRawInItsOrder(t *testing.T) {
	x := mixture(t, 16, 3)
	for _, c := range []struct {
		page int
		want api.Errno
	}{
		{-1, api.ErrArg}, {0, api.ErrArg}, {1, api.ErrArg}, {16, api.ErrArg}, {17, api.ErrArg},
		{x.spare, api.ErrNone}, {x.gone, api.ErrNone}, {x.heldLeaf, api.ErrNone}, {x.heldRaw, api.ErrNone},
		{x.atMap, api.ErrShadow},
	} {
		wantErr(t, fmt.Sprintf("PutRaw of page %d", c.page), x.putRaw(c.page, nil), c.want)
		wantErr(t, fmt.Sprintf("PutRaw of page %d of too many", c.page), x.putRaw(c.page, make([]byte, 257)), c.want)
	}
	for _, page := range []int{x.oldLeaf, x.oldRaw, x.mineLeaf, x.mineRaw} {
		wantErr(t, "PutRaw of too many", x.putRaw(page, make([]byte, 257)), api.ErrLong)
		x.readAll("errors")
		wantErr(t, "PutRaw", x.putRaw(page, []byte("raw")), api.OK)
	}
	x.readAll("PutRaw")
}

// P9.3: shorter bytes leave nothing of longer ones.
func TestPutRawOfShorterBytes(t *testing.T) {
	for _, size := range []int{2, 64} {
		b := formatted(t, 16, size)
		page, e := b.newRaw(bytes.Repeat([]byte{255}, 256))
		b.ok(e)
		for n := 255; n >= 0; n -= 5 {
			b.ok(b.putRaw(page, bytes.Repeat([]byte{byte(n)}, n)))
			if n%3 == 0 {
				b.ok(b.commit(nil))
			}
			b.readAll("PutRaw")
		}
	}
}

// P9.3: Raw's errors, each named; of all pages that are not free it tells the bytes, framed ones too.
func TestRawInItsOrder(t *testing.T) {
	for _, size := range []int{2, 64} {
		x := mixture(t, 16, size)
		for _, c := range []struct {
			page int
			want api.Errno
		}{
			{-1, api.ErrArg}, {0, api.ErrArg}, {1, api.ErrArg}, {16, api.ErrArg}, {17, api.ErrArg},
			{x.spare, api.ErrNone}, {x.gone, api.ErrNone},
			{x.oldLeaf, api.OK}, {x.oldRaw, api.OK}, {x.heldLeaf, api.OK}, {x.heldRaw, api.OK}, {x.mineLeaf, api.OK}, {x.mineRaw, api.OK}, {x.atMap, api.OK},
		} {
			got, e := x.p.Raw(c.page)
			wantErr(t, fmt.Sprintf("Raw(%d)", c.page), e, c.want)
			if e == api.OK && len(got) != 256 || e != api.OK && got != nil {
				t.Fatalf("Raw(%d) answers %d bytes", c.page, len(got))
			}
		}
		for _, page := range x.allPages() {
			x.raw(page)
		}
		x.told("Raw")
	}
}

// P9.2, P9.3: what is raw may be a frame all the same, one that belongs there or elsewhere, and is read as such.
func TestRawFrames(t *testing.T) {
	b := formatted(t, 12, 2)
	page, e := b.newRaw(nil)
	b.ok(e)
	for _, c := range []struct {
		bytes []byte
		kind  int
		want  api.Errno
	}{
		{plainFrame(api.KindLeaf, page, 99, []byte("there")), api.KindLeaf, api.OK},
		{plainFrame(api.KindLeaf, page, 99, []byte("there")), api.KindInner, api.ErrKind},
		{plainFrame(api.KindLeaf, page+1, 2, nil), api.KindLeaf, api.ErrPage},
		{plainFrame(7, page, 2, nil), 7, api.ErrKind},
		{plainFrame(api.KindHead, page, 2, nil), api.KindHead, api.OK},
		{make([]byte, 256), 0, api.ErrSum},
	} {
		b.ok(b.putRaw(page, c.bytes))
		wantErr(t, "Read", b.read(page, c.kind), c.want)
	}
}

// P9.3: Free of each page: of this transaction it is free at once, else it is held, and told and read as such till Commit.
func TestFree(t *testing.T) {
	for _, size := range []int{2, 64} {
		x := mixture(t, 16, size)
		for _, page := range x.allPages() {
			if page == x.oldRaw || page == x.mineRaw {
				continue
			}
			x.free(page)
			x.readAll(fmt.Sprintf("Free(%d)", page))
			if e := x.free(page); e == api.OK {
				t.Fatalf("Free(%d) again is OK", page)
			}
		}
		x.ok(x.commit(nil))
		x.readAll("Commit")
	}
}

// P9.3: Free's errors, each named: ErrArg, ErrNone, ErrShadow of a map; what the others leave.
func TestFreeInItsOrder(t *testing.T) {
	x := mixture(t, 16, 3)
	for _, c := range []struct {
		page int
		want api.Errno
	}{
		{-1, api.ErrArg}, {0, api.ErrArg}, {1, api.ErrArg}, {16, api.ErrArg}, {17, api.ErrArg},
		{x.spare, api.ErrNone}, {x.gone, api.ErrNone}, {x.heldLeaf, api.ErrNone}, {x.heldRaw, api.ErrNone},
		{x.atMap, api.ErrShadow},
	} {
		wantErr(t, fmt.Sprintf("Free(%d)", c.page), x.free(c.page), c.want)
		x.told("an error")
	}
	avail := x.p.Avail()
	wantErr(t, "Free of an old one", x.free(x.oldLeaf), api.OK)
	if x.p.Avail() != avail || slices.Contains(x.p.Taken(), x.oldLeaf) {
		t.Fatal("an old page is not held")
	}
	wantErr(t, "Raw of a held one", x.raw(x.oldLeaf), api.OK)
	wantErr(t, "Free of one's own", x.free(x.mineLeaf), api.OK)
	if x.p.Avail() != avail+1 || x.p.Mine(x.mineLeaf) {
		t.Fatal("a page of this transaction is not free")
	}
	wantErr(t, "Raw of a free one", x.raw(x.mineLeaf), api.ErrNone)
}

// P9.3: of two maps each is ErrShadow; those of a commit ago are not.
func TestBothMapsAreShadow(t *testing.T) {
	b := formatted(t, 1025, 2)
	for range 4 {
		for _, page := range b.p.Maps() {
			wantErr(t, "Free", b.free(page), api.ErrShadow)
			wantErr(t, "PutRaw", b.putRaw(page, nil), api.ErrShadow)
			wantErr(t, "Put", b.put(page, api.KindMap, nil), api.ErrShadow)
			wantErr(t, "Read", b.read(page, api.KindMap), api.OK)
		}
		old := b.p.Maps()
		b.ok(b.commit(nil))
		for _, page := range old {
			wantErr(t, "Free", b.free(page), api.ErrNone)
			wantErr(t, "Raw", b.raw(page), api.ErrNone)
		}
	}
}

// P9.3: a page that was put in place, and then let go, has what was put, held or behind Abort.
func TestPutInPlaceThenFreed(t *testing.T) {
	for _, size := range []int{2, 64} {
		x := mixture(t, 30, size)
		x.ok(x.putRaw(x.oldRaw, []byte("put, and let go")), x.free(x.oldRaw))
		x.readAll("Free")
		x.takes(4)
		x.readAll("others")
		x.ok(x.abort())
		x.readAll("Abort")
		if got, e := x.p.Raw(x.oldRaw); e != api.OK || !bytes.HasPrefix(got, []byte("put, and let go")) {
			t.Fatal(string(got), e)
		}
	}
}
