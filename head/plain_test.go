package head_test

import (
	"bytes"
	"math"
	"slices"
	"testing"

	"incipit/api"
	"incipit/head"
)

// The chapter's own words, done by hand: what the package is held against.

// plainMayBe asks what the chapter's section 'Words' asks of a head.
func plainMayBe(h api.Head) bool {
	if h.Pages < 8 || h.Pages > 2048 {
		return false
	}
	if h.Pages <= 1024 && len(h.Maps) != 1 || h.Pages > 1024 && len(h.Maps) != 2 {
		return false
	}
	for _, m := range h.Maps {
		if m < 2 || m >= h.Pages {
			return false
		}
	}
	if len(h.Maps) == 2 && h.Maps[0] == h.Maps[1] {
		return false
	}
	return len(h.User) <= 32
}

// bare is a head's bytes one behind the other, whether it may be or not, without the noughts behind them.
func bare(h api.Head) []byte {
	b := []byte{byte(h.Pages >> 8), byte(h.Pages), byte(len(h.Maps))}
	for _, m := range h.Maps {
		b = append(b, byte(m>>8), byte(m))
	}
	return append(append(b, byte(len(h.User))), h.User...)
}

// padded is b, and noughts behind it, up to n bytes.
func padded(b []byte, n int) []byte {
	return append(bytes.Clone(b), make([]byte, n-len(b))...)
}

// plainPut is what the page of a head that may be bears.
func plainPut(h api.Head) []byte { return padded(bare(h), 240) }

// plainGet takes what a page bears apart byte by byte, and refuses it at the first one that may not be.
func plainGet(epoch uint64, b []byte) (api.Head, api.Errno) {
	if len(b) != 240 || b[2] > 2 {
		return api.Head{}, api.ErrHead
	}
	h := api.Head{Epoch: epoch, Pages: int(b[0])*256 + int(b[1])}
	rest := b[3:]
	for range int(b[2]) {
		h.Maps = append(h.Maps, int(rest[0])*256+int(rest[1]))
		rest = rest[2:]
	}
	if rest[0] > 32 {
		return api.Head{}, api.ErrHead
	}
	h.User = append(h.User, rest[1:1+rest[0]]...)
	for _, c := range rest[1+rest[0]:] {
		if c != 0 {
			return api.Head{}, api.ErrHead
		}
	}
	if !plainMayBe(h) {
		return api.Head{}, api.ErrHead
	}
	return h, api.OK
}

// plainSum is the CRC-32C of bytes, bit by bit.
func plainSum(b []byte) uint32 {
	register := uint32(0xffffffff)
	for _, c := range b {
		register ^= uint32(c)
		for range 8 {
			fell := register & 1
			register >>= 1
			if fell == 1 {
				register ^= 0x82f63b78
			}
		}
	}
	return ^register
}

// laid is a page with a right sum, whatever the rest of it says.
func laid(kind byte, number uint16, epoch uint64, bears []byte) []byte {
	b := []byte{kind, 0, byte(number >> 8), byte(number)}
	for shift := 56; shift >= 0; shift -= 8 {
		b = append(b, byte(epoch>>shift))
	}
	b = padded(append(b, bears...), 252)
	s := plainSum(b)
	return append([]byte{byte(s >> 24), byte(s >> 16), byte(s >> 8), byte(s)}, b...)
}

// plainLay is the page of a head that may be.
func plainLay(h api.Head) []byte {
	return laid(1, uint16(h.Epoch%2), h.Epoch, plainPut(h))
}

// plainChoose asks of each copy what the chapter asks, and takes the one with the greatest epoch of those that count.
func plainChoose(pages int, copies [][]byte) (api.Head, int, api.Errno) {
	counting := map[int]api.Head{}
	for i, b := range copies {
		if i > 1 || len(b) != 256 {
			continue
		}
		var epoch uint64
		for _, c := range b[8:16] {
			epoch = epoch*256 + uint64(c)
		}
		h, e := plainGet(epoch, b[16:])
		if e == api.OK && epoch%2 == uint64(i) && h.Pages == pages && bytes.Equal(b, plainLay(h)) {
			counting[i] = h
		}
	}
	even, is0 := counting[0]
	odd, is1 := counting[1]
	switch {
	case !is0 && !is1:
		return api.Head{}, 0, api.ErrHead
	case !is1 || is0 && even.Epoch > odd.Epoch:
		return even, 0, api.OK
	}
	return odd, 1, api.OK
}

// plainSame holds two heads against each other, one thing after the other.
func plainSame(a, b api.Head) bool {
	if a.Epoch != b.Epoch || a.Pages != b.Pages || len(a.Maps) != len(b.Maps) || len(a.User) != len(b.User) {
		return false
	}
	for i := range a.Maps {
		if a.Maps[i] != b.Maps[i] {
			return false
		}
	}
	for i := range a.User {
		if a.User[i] != b.User[i] {
			return false
		}
	}
	return true
}

func wantErr(t *testing.T, what string, got, want api.Errno) {
	t.Helper()
	if got != want {
		t.Errorf("%s: error %d, not %d", what, int(got), int(want))
	}
}

func wantBytes(t *testing.T, what string, got, want []byte) {
	t.Helper()
	if !bytes.Equal(got, want) {
		t.Errorf("%s: %v, not %v", what, got, want)
	}
}

func wantHead(t *testing.T, what string, got, want api.Head) {
	t.Helper()
	if !plainSame(got, want) {
		t.Errorf("%s: %v, not %v", what, got, want)
	}
}

// wantNone asks that a head is the zero one.
func wantNone(t *testing.T, what string, h api.Head) {
	t.Helper()
	if h.Epoch != 0 || h.Pages != 0 || h.Maps != nil || h.User != nil {
		t.Errorf("%s: %v beside an error", what, h)
	}
}

// wantMayBe asks that Check takes h, and Put and Lay lay it.
func wantMayBe(t *testing.T, what string, h api.Head) {
	t.Helper()
	wantErr(t, what+": Check", head.Check(h), api.OK)
	b, e := head.Put(h)
	wantErr(t, what+": Put", e, api.OK)
	wantBytes(t, what+": Put", b, plainPut(h))
	b, e = head.Lay(h)
	wantErr(t, what+": Lay", e, api.OK)
	wantBytes(t, what+": Lay", b, plainLay(h))
}

// wantMayNotBe asks that Check, Put and Lay refuse h, and answer nothing beside the error.
func wantMayNotBe(t *testing.T, what string, h api.Head) {
	t.Helper()
	wantErr(t, what+": Check", head.Check(h), api.ErrHead)
	b, e := head.Put(h)
	wantErr(t, what+": Put", e, api.ErrHead)
	if b != nil {
		t.Errorf("%s: Put answers bytes beside an error", what)
	}
	b, e = head.Lay(h)
	wantErr(t, what+": Lay", e, api.ErrHead)
	if b != nil {
		t.Errorf("%s: Lay answers bytes beside an error", what)
	}
}

// wantGet asks that b is what h's page bears.
func wantGet(t *testing.T, what string, b []byte, h api.Head) {
	t.Helper()
	got, e := head.Get(h.Epoch, b)
	wantErr(t, what+": Get", e, api.OK)
	wantHead(t, what+": Get", got, h)
}

// wantNoGet asks that b is what no head's page bears, of whatever epoch.
func wantNoGet(t *testing.T, what string, b []byte) {
	t.Helper()
	for _, epoch := range []uint64{0, 1, 9, math.MaxUint64} {
		got, e := head.Get(epoch, b)
		wantErr(t, what+": Get", e, api.ErrHead)
		wantNone(t, what+": Get", got)
	}
}

// wantGetAsTheWords asks that Get takes b just where the chapter's words do.
func wantGetAsTheWords(t *testing.T, what string, epoch uint64, b []byte) api.Errno {
	t.Helper()
	want, wantE := plainGet(epoch, b)
	if wantE != api.OK {
		wantNoGet(t, what, b)
		return wantE
	}
	wantGet(t, what, b, want)
	return api.OK
}

// wantChoice asks that Choose tells h, and that it stands at its place among copies.
func wantChoice(t *testing.T, what string, h api.Head, at int, copies ...[]byte) {
	t.Helper()
	got, i, e := head.Choose(h.Pages, copies...)
	wantErr(t, what+": Choose", e, api.OK)
	wantHead(t, what+": Choose", got, h)
	if i != at {
		t.Errorf("%s: Choose tells the number %d, not %d", what, i, at)
	}
}

// wantNoChoice asks that no copy counts.
func wantNoChoice(t *testing.T, what string, pages int, copies ...[]byte) {
	t.Helper()
	got, i, e := head.Choose(pages, copies...)
	wantErr(t, what+": Choose", e, api.ErrHead)
	wantNone(t, what+": Choose", got)
	if i != 0 {
		t.Errorf("%s: Choose tells the number %d beside an error", what, i)
	}
}

// run answers n bytes that look like no rule, always the same ones of a seed.
func run(n int, seed uint32) []byte {
	b := make([]byte, n)
	for i := range b {
		seed = seed*1664525 + 1013904223
		b[i] = byte(seed >> 24)
	}
	return b
}

// draws is a rule by which heads are drawn, always the same of a seed.
type draws uint32

// below draws a number from 0 on, below n.
func (r *draws) below(n int) int {
	*r = *r*1664525 + 1013904223
	return int(uint32(*r)>>8) % n
}

// epoch draws an epoch, often one at an edge.
func (r *draws) epoch() uint64 {
	return epochs[r.below(len(epochs))] + uint64(r.below(3))
}

// head draws a head that may be, of so many pages; of any number, if that is 0.
func (r *draws) head(pages int) api.Head {
	if pages == 0 {
		pages = api.MinPages + r.below(api.MaxPages-api.MinPages+1)
	}
	h := api.Head{Epoch: r.epoch(), Pages: pages, User: run(r.below(api.MaxUser+1), uint32(r.below(1<<20)))}
	for len(h.Maps) < mapsOf(pages) {
		if m := 2 + r.below(pages-2); !slices.Contains(h.Maps, m) {
			h.Maps = append(h.Maps, m)
		}
	}
	return h
}

// mapsOf is how many maps so many pages need.
func mapsOf(pages int) int {
	if pages > 1024 {
		return 2
	}
	return 1
}

// plainHead is a head of so many pages that may be, with its maps behind the heads' pages.
func plainHead(epoch uint64, pages int, user ...byte) api.Head {
	return api.Head{Epoch: epoch, Pages: pages, Maps: []int{2, 3}[:mapsOf(pages)], User: user}
}

// Numbers at their edges, and far off them.
var (
	epochs   = []uint64{0, 1, 2, 9, 255, 256, 0x0102030405060708, 1 << 32, 1<<63 - 1, 1 << 63, math.MaxUint64 - 3, math.MaxUint64 - 1, math.MaxUint64}
	sizes    = []int{api.MinPages, 9, 63, 64, 255, 256, 257, 1023, 1024, 1025, 1026, 2047, api.MaxPages}
	badSizes = []int{api.MinPages - 1, 1, 0, -1, -64, -1024, api.MaxPages + 1, 2050, 4096, 32768, 65535, 65536, 1<<16 + 64, 1<<16 + 2048, 1<<32 + 64, 1<<48 + 64, -1<<16 + 64, math.MinInt, math.MinInt + 64, math.MaxInt}
	farOff   = []int{-2, -64, 1 << 16, 1<<16 + 2, 1<<16 + 5, 1<<32 + 2, -1<<16 + 2, math.MinInt, math.MinInt + 2, math.MaxInt}
	lengths  = []int{0, 1, 2, api.MaxUser - 1, api.MaxUser}
	badLongs = []int{api.MaxUser + 1, api.MaxUser + 2, 48, 64, 200, 240, 255, 256, 257, 256 + api.MaxUser, 1 << 16, 1<<16 + 1}
)
