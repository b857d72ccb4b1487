package frame_test

import (
	"bytes"
	"math"
	"testing"

	"incipit/api"
	"incipit/frame"
)

// The chapter's own words, done by hand: what the package is held against.

// plainSum is the CRC-32C of bytes, bit by bit.
func plainSum(b []byte) uint32 {
	register := uint32(0xffffffff)
	for _, c := range b {
		register ^= uint32(c)
		for range 8 {
			fell := register & 1
			register >>= 1
			if fell == 1 {
				register ^= 0x82f63b78
			}
		}
	}
	return ^register
}

// sealed is the bytes of a page behind its sum, and the sum ahead of them.
func sealed(behind []byte) []byte {
	s := plainSum(behind)
	return append([]byte{byte(s >> 24), byte(s >> 16), byte(s >> 8), byte(s)}, behind...)
}

// laid is a page with a right sum, whatever the rest of it says.
func laid(kind, nought byte, number uint16, epoch uint64, data []byte) []byte {
	b := []byte{kind, nought, byte(number >> 8), byte(number)}
	for shift := 56; shift >= 0; shift -= 8 {
		b = append(b, byte(epoch>>shift))
	}
	b = append(b, data...)
	for len(b) < 252 {
		b = append(b, 0)
	}
	return sealed(b)
}

// plainPut is a page of a frame that may be.
func plainPut(f api.Frame) []byte {
	return laid(byte(f.Kind), 0, uint16(f.Page), f.Epoch, f.Data)
}

func plainCheck(f api.Frame) api.Errno {
	if f.Kind != 1 && f.Kind != 2 && f.Kind != 3 && f.Kind != 4 {
		return api.ErrKind
	}
	if f.Page < 0 || f.Page > 2047 {
		return api.ErrPage
	}
	if len(f.Data) > 240 {
		return api.ErrLong
	}
	return api.OK
}

// plainGet asks what the chapter asks, in its order.
func plainGet(b []byte, page int) (api.Frame, api.Errno) {
	if len(b) != 256 {
		return api.Frame{}, api.ErrArg
	}
	if !bytes.Equal(b, sealed(bytes.Clone(b[4:]))) {
		return api.Frame{}, api.ErrSum
	}
	if b[4] < 1 || b[4] > 4 || b[5] != 0 {
		return api.Frame{}, api.ErrKind
	}
	number := int(b[6])*256 + int(b[7])
	if number != page || number > 2047 {
		return api.Frame{}, api.ErrPage
	}
	f := api.Frame{Kind: int(b[4]), Page: number, Data: bytes.Clone(b[16:])}
	for _, c := range b[8:16] {
		f.Epoch = f.Epoch*256 + uint64(c)
	}
	return f, api.OK
}

// plainSame takes the noughts at the ends off one by one.
func plainSame(a, b api.Frame) bool {
	x, y := a.Data, b.Data
	for len(x) > 0 && x[len(x)-1] == 0 {
		x = x[:len(x)-1]
	}
	for len(y) > 0 && y[len(y)-1] == 0 {
		y = y[:len(y)-1]
	}
	return a.Kind == b.Kind && a.Page == b.Page && a.Epoch == b.Epoch && bytes.Equal(x, y)
}

func wantErr(t *testing.T, what string, got, want api.Errno) {
	t.Helper()
	if got != want {
		t.Errorf("%s: error %d, not %d", what, int(got), int(want))
	}
}

func wantBytes(t *testing.T, what string, got, want []byte) {
	t.Helper()
	if !bytes.Equal(got, want) {
		t.Errorf("%s: %v, not %v", what, got, want)
	}
}

// wantFrame asks for each of a frame's fields, its Data byte by byte.
func wantFrame(t *testing.T, what string, got, want api.Frame) {
	t.Helper()
	if got.Kind != want.Kind || got.Page != want.Page || got.Epoch != want.Epoch || !bytes.Equal(got.Data, want.Data) {
		t.Errorf("%s: %v, not %v", what, got, want)
	}
}

// wantPut asks that f's page is want.
func wantPut(t *testing.T, what string, f api.Frame, want []byte) {
	t.Helper()
	got, e := frame.Put(f)
	wantErr(t, what, e, api.OK)
	wantBytes(t, what, got, want)
}

// wantNoPut asks that Check and Put answer that error, and Put nothing beside it.
func wantNoPut(t *testing.T, what string, f api.Frame, want api.Errno) {
	t.Helper()
	wantErr(t, what+": Check", frame.Check(f), want)
	got, e := frame.Put(f)
	wantErr(t, what+": Put", e, want)
	if got != nil {
		t.Errorf("%s: Put answers bytes beside an error", what)
	}
}

// wantGet asks that b is want's page, for Get and, whatever its kind is, for Want.
func wantGet(t *testing.T, what string, b []byte, page int, want api.Frame) {
	t.Helper()
	got, e := frame.Get(b, page)
	wantErr(t, what+": Get", e, api.OK)
	wantFrame(t, what+": Get", got, want)
	got, e = frame.Want(b, page, 1, 2, 3, 4)
	wantErr(t, what+": Want", e, api.OK)
	wantFrame(t, what+": Want", got, want)
}

// wantNone asks that a frame is the zero one.
func wantNone(t *testing.T, what string, f api.Frame) {
	t.Helper()
	if f.Kind != 0 || f.Page != 0 || f.Epoch != 0 || f.Data != nil {
		t.Errorf("%s: %v beside an error", what, f)
	}
}

// wantNoGet asks that Get answers that error, and Want, too, whatever kinds are wanted; and no frame beside it.
func wantNoGet(t *testing.T, what string, b []byte, page int, want api.Errno) {
	t.Helper()
	f, e := frame.Get(b, page)
	wantErr(t, what+": Get", e, want)
	wantNone(t, what+": Get", f)
	for _, kinds := range [][]int{nil, {1, 2, 3, 4}, {0, 5}, {1, 2, 3, 4, 0, 5, 255, -1}} {
		f, e = frame.Want(b, page, kinds...)
		wantErr(t, what+": Want", e, want)
		wantNone(t, what+": Want", f)
	}
}

// run answers n bytes that look like no rule, always the same ones of a seed.
func run(n int, seed uint32) []byte {
	b := make([]byte, n)
	for i := range b {
		seed = seed*1664525 + 1013904223
		b[i] = byte(seed >> 24)
	}
	return b
}

// draws is a rule by which frames are drawn, always the same of a seed.
type draws uint32

// below draws a number from 0 on, below n.
func (r *draws) below(n int) int {
	*r = *r*1664525 + 1013904223
	return int(uint32(*r)>>8) % n
}

// frame draws a frame that may be.
func (r *draws) frame() api.Frame {
	f := api.Frame{Kind: 1 + r.below(4), Page: r.below(api.MaxPages), Epoch: epochs[r.below(len(epochs))]}
	f.Epoch += uint64(r.below(3))
	f.Data = run(r.below(api.Payload+1), uint32(r.below(1<<20)))
	return f
}

// Numbers at their edges, and far off them.
var (
	epochs   = []uint64{0, 1, 255, 256, 0x0102030405060708, 1 << 32, 1<<63 - 1, 1 << 63, math.MaxUint64 - 1, math.MaxUint64}
	badKinds = []int{-1, 0, 5, 6, 255, 256, 257, 258, 259, 260, 261, -255, 1<<16 + 1, 1<<32 + 1, 1<<32 + 4, math.MinInt, math.MinInt + 1, math.MaxInt}
	badPages = []int{-1, -2, api.MaxPages, api.MaxPages + 1, 4095, 32768, 65535, 65536, 65537, -65536, -65535, 1 << 32, 1<<32 + 5, math.MinInt, math.MaxInt}
	pages    = []int{0, 1, 2, 5, 127, 128, 255, 256, 257, 258, 511, 1023, 1024, api.MaxPages - 2, api.MaxPages - 1}
	badLongs = []int{api.Payload + 1, api.Payload + 2, api.PageSize, 2 * api.Payload, 1000, 1<<16 + 1}
	lengths  = []int{0, 1, 2, api.Payload - 1, api.Payload}
)
