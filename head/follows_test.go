package head_test

import (
	"bytes"
	"fmt"
	"testing"

	"incipit/api"
	"incipit/disk"
	"incipit/head"
)

// P6.4: Get of Put is the head, Put of Get what was borne, Choose of Lay the head, over many heads.
func TestThereAndBack(t *testing.T) {
	r := draws(5)
	for range 20_000 {
		h := r.head(0)
		wantMayBe(t, "drawn", h)
		b, _ := head.Put(h)
		g, e := head.Get(h.Epoch, b)
		wantErr(t, "Get of Put", e, api.OK)
		wantHead(t, "Get of Put", g, h)
		again, e := head.Put(g)
		wantErr(t, "Put of Get", e, api.OK)
		wantBytes(t, "Put of Get", again, b)
		page, _ := head.Lay(h)
		copies := make([][]byte, 2)
		copies[head.Page(h.Epoch)] = page
		wantChoice(t, "Choose of Lay", h, head.Page(h.Epoch), copies...)
		if !head.Same(g, h) {
			t.Fatalf("%v and %v are not the same", g, h)
		}
	}
}

// P6.5: all of a head stands in its page's first sector, also of the longest head.
func TestAllInTheFirstSector(t *testing.T) {
	r := draws(6)
	noughts := make([]byte, api.PageSize-api.Sector)
	for i := range 3000 {
		h := r.head(0)
		if i%2 == 0 {
			h = r.head(api.MaxPages)
			h.User = bytes.Repeat([]byte{255}, api.MaxUser)
		}
		b, e := head.Lay(h)
		wantErr(t, "Lay", e, api.OK)
		wantBytes(t, "behind the first sector", b[api.Sector:], noughts)
	}
}

// mixed is a page each of whose sectors is b's where its bit of choice is set, else a's.
func mixed(a, b []byte, choice int) []byte {
	out := bytes.Clone(a)
	for s := range api.PageSize / api.Sector {
		if choice>>s&1 == 1 {
			copy(out[s*api.Sector:(s+1)*api.Sector], b[s*api.Sector:])
		}
	}
	return out
}

// P6.5: of two heads' pages, by each choice of sectors, it is the page of that one whose first sector it has.
func TestEachChoiceOfSectors(t *testing.T) {
	r := draws(7)
	for range 500 {
		x, y := r.head(2048), r.head(2048)
		y.Epoch = y.Epoch&^1 | x.Epoch&1 // both stand on one page
		a, _ := head.Lay(x)
		b, _ := head.Lay(y)
		at := head.Page(x.Epoch)
		for choice := range 16 {
			want, h := a, x
			if choice&1 == 1 {
				want, h = b, y
			}
			got := mixed(a, b, choice)
			wantBytes(t, fmt.Sprint("sectors ", choice), got, want)
			copies := make([][]byte, 2)
			copies[at] = got
			wantChoice(t, fmt.Sprint("sectors ", choice), h, at, copies...)
		}
	}
}

// P6.5, P6.6: a head's write that the power cuts comes about whole, or not at all: the newer head counts, or the older one.
func TestAWriteThatThePowerCuts(t *testing.T) {
	for epoch := uint64(2); epoch < 20; epoch++ {
		for sectors := range uint8(5) {
			d, e := disk.New(64)
			wantErr(t, "New", e, api.OK)
			older, newer := plainHead(epoch-1, 64, 1), plainHead(epoch, 64, 2)
			for _, h := range []api.Head{plainHead(epoch-2, 64), older} {
				wantErr(t, "Write", d.Write(head.Page(h.Epoch), plainLay(h)), api.OK)
			}
			wantErr(t, "Sync", d.Sync(), api.OK)
			wantErr(t, "Write", d.Write(head.Page(epoch), plainLay(newer)), api.OK)
			wantErr(t, "Crash", d.Crash(sectors), api.OK)
			first, _ := d.Read(0)
			second, _ := d.Read(1)
			if sectors == 0 {
				wantChoice(t, "nothing came about", older, head.Page(epoch-1), first, second)
			} else {
				wantChoice(t, fmt.Sprint("sectors ", sectors), newer, head.Page(epoch), first, second)
			}
		}
	}
}

// inTurn is two heads' pages, each at its own place.
func inTurn(a, b api.Head) [][]byte {
	copies := make([][]byte, 2)
	copies[a.Epoch%2] = plainLay(a)
	copies[b.Epoch%2] = plainLay(b)
	return copies
}

// P6.6: of two heads in epochs that follow one another the newer one; the older one, if the newer page is not whole, whichever byte is spoilt.
func TestTheNewerOne(t *testing.T) {
	r := draws(8)
	for _, epoch := range []uint64{0, 1, 2, 3, 8, 9, 255, 256, 1<<32 - 1, 1 << 32, 1<<63 - 1, 1 << 63, 1<<64 - 3, 1<<64 - 2} {
		pages := sizes[r.below(len(sizes))]
		older, newer := r.head(pages), r.head(pages)
		older.Epoch, newer.Epoch = epoch, epoch+1
		copies := inTurn(older, newer)
		wantChoice(t, "both are whole", newer, head.Page(epoch+1), copies...)
		for at := range api.PageSize {
			for _, c := range []byte{1, 128, 255, byte(1 + r.below(255))} {
				spoilt := inTurn(older, newer)
				spoilt[head.Page(epoch+1)][at] ^= c
				wantChoice(t, fmt.Sprint("the newer one is spoilt at ", at), older, head.Page(epoch), spoilt...)
				spoilt = inTurn(older, newer)
				spoilt[head.Page(epoch)][at] ^= c
				wantChoice(t, fmt.Sprint("the older one is spoilt at ", at), newer, head.Page(epoch+1), spoilt...)
			}
		}
	}
}

// P6.6: the newer page cut short, missing, or noughts.
func TestTheOlderOneWhereTheNewerOneIsMissing(t *testing.T) {
	for _, epoch := range []uint64{8, 9} {
		older, newer := plainHead(epoch, 64, 1), plainHead(epoch+1, 64, 2)
		for n := range api.PageSize {
			copies := inTurn(older, newer)
			copies[head.Page(epoch+1)] = copies[head.Page(epoch+1)][:n]
			wantChoice(t, "cut short", older, head.Page(epoch), copies...)
		}
		for _, b := range [][]byte{nil, make([]byte, api.PageSize), plainLay(older)} {
			copies := inTurn(older, newer)
			copies[head.Page(epoch+1)] = b
			wantChoice(t, "missing", older, head.Page(epoch), copies...)
		}
	}
}

// R1, P6.1, P6.3: any bytes, as what a page bears, and as a page that bears them.
func FuzzHead(f *testing.F) {
	f.Add([]byte{}, uint64(0), 0)
	f.Add(bare(plainHead(9, 64, 7)), uint64(9), 64)
	f.Add(bare(plainHead(8, 2048, run(32, 1)...)), uint64(8), 2048)
	f.Add([]byte{0, 64, 255, 0, 2}, uint64(1), 64)
	f.Fuzz(func(t *testing.T, b []byte, epoch uint64, pages int) {
		wantGetAsTheWords(t, "as it is", epoch, b)
		b = padded(b[:min(len(b), api.Payload)], api.Payload)
		wantGetAsTheWords(t, "padded", epoch, b)
		wantPutOfGet(t, "padded", epoch, b)
		copies := [][]byte{laid(1, 0, epoch, b), laid(1, 1, epoch, b)}
		if h, at, e := plainChoose(pages, copies); e == api.OK {
			wantChoice(t, "laid", h, at, copies...)
		} else {
			wantNoChoice(t, "laid", pages, copies...)
		}
	})
}
