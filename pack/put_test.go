package pack_test

import (
	"bytes"
	"math"
	"testing"

	"incipit/api"
	"incipit/pack"
)

// varForms: short numbers at each change of length, and their bytes.
var varForms = []struct {
	v    uint32
	form []byte
}{
	{0, []byte{0}},
	{1, []byte{1}},
	{127, []byte{127}},
	{128, []byte{128, 1}},
	{300, []byte{172, 2}},
	{1<<14 - 1, []byte{255, 127}},
	{1 << 14, []byte{128, 128, 1}},
	{1<<21 - 1, []byte{255, 255, 127}},
	{1 << 21, []byte{128, 128, 128, 1}},
	{1<<28 - 1, []byte{255, 255, 255, 127}},
	{1 << 28, []byte{128, 128, 128, 128, 1}},
	{1<<32 - 1, []byte{255, 255, 255, 255, 15}},
}

func wantBytes(t *testing.T, what string, got, want []byte) {
	t.Helper()
	if !bytes.Equal(got, want) {
		t.Errorf("%s: %v, not %v", what, got, want)
	}
}

func wantErr(t *testing.T, what string, got, want api.Errno) {
	t.Helper()
	if got != want {
		t.Errorf("%s: error %d, not %d", what, got, want)
	}
}

// run answers n bytes, none of them the same as the next one.
func run(n int) []byte {
	b := make([]byte, n)
	for i := range b {
		b[i] = byte(7 * i)
	}
	return b
}

// P1.1: numbers of two, four and eight bytes, the highest one first, behind what was there.
func TestNumbersAreHighestFirst(t *testing.T) {
	ahead := []byte{9, 8}
	wantBytes(t, "U16", pack.U16(ahead, 0x0102), []byte{9, 8, 1, 2})
	wantBytes(t, "U32", pack.U32(ahead, 0x01020304), []byte{9, 8, 1, 2, 3, 4})
	wantBytes(t, "U64", pack.U64(ahead, 0x0102030405060708), []byte{9, 8, 1, 2, 3, 4, 5, 6, 7, 8})
	wantBytes(t, "U16 of 0", pack.U16(nil, 0), []byte{0, 0})
	wantBytes(t, "U32 of 0", pack.U32(nil, 0), []byte{0, 0, 0, 0})
	wantBytes(t, "U64 of 0", pack.U64(nil, 0), make([]byte, 8))
	wantBytes(t, "greatest U16", pack.U16(nil, math.MaxUint16), bytes.Repeat([]byte{255}, 2))
	wantBytes(t, "greatest U32", pack.U32(nil, math.MaxUint32), bytes.Repeat([]byte{255}, 4))
	wantBytes(t, "greatest U64", pack.U64(nil, math.MaxUint64), bytes.Repeat([]byte{255}, 8))
}

// P1.1: a short number has its lowest seven bits first, in as few bytes as are enough, and Size of them.
func TestVarForms(t *testing.T) {
	for _, c := range varForms {
		wantBytes(t, "Var", pack.Var(nil, c.v), c.form)
		wantBytes(t, "Var behind bytes", pack.Var([]byte{9, 0}, c.v), append([]byte{9, 0}, c.form...))
		if n := pack.Size(c.v); n != len(c.form) {
			t.Errorf("Size(%d) is %d, not %d", c.v, n, len(c.form))
		}
	}
}

// P1.1: a text is its length and its bytes; one of 256 bytes is too long.
func TestTextForms(t *testing.T) {
	for _, n := range []int{0, 1, 2, 254, 255} {
		b, e := pack.Text([]byte{9}, run(n))
		wantErr(t, "Text", e, api.OK)
		wantBytes(t, "Text", b, append([]byte{9, byte(n)}, run(n)...))
	}
	b, e := pack.Text(nil, nil)
	wantErr(t, "Text of nil", e, api.OK)
	wantBytes(t, "Text of nil", b, []byte{0})
	for _, n := range []int{256, 257, 1000} {
		b, e := pack.Text([]byte{9}, run(n))
		wantErr(t, "long Text", e, api.ErrLong)
		if b != nil {
			t.Errorf("Text of %d bytes: an error, and %d bytes", n, len(b))
		}
	}
}

// putAll: each call that puts, behind b.
func putAll(b []byte) map[string][]byte {
	text, _ := pack.Text(b, []byte("ab"))
	empty, _ := pack.Text(b, nil)
	return map[string][]byte{
		"U16":        pack.U16(b, 0x0102),
		"U32":        pack.U32(b, 0x01020304),
		"U64":        pack.U64(b, 0x0102030405060708),
		"Var":        pack.Var(b, 300),
		"Text":       text,
		"empty Text": empty,
	}
}

// R3: nothing is written into the room behind what is handed in, and what is answered shares none of it.
func TestPutLeavesWhatIsHandedIn(t *testing.T) {
	whole := bytes.Repeat([]byte{77}, 32)
	for what, got := range putAll(whole[:4]) {
		wantBytes(t, what+" wrote into what was handed in", whole, bytes.Repeat([]byte{77}, 32))
		for i := range got {
			got[i] = 1
		}
		wantBytes(t, what+" answers what was handed in", whole, bytes.Repeat([]byte{77}, 32))
	}
	answers := putAll(whole[:4])
	before := putAll(whole[:4])
	for i := range whole {
		whole[i] = 3
	}
	for what, got := range answers {
		wantBytes(t, what+" changed with what was handed in", got, before[what])
	}
}

// R3: what two calls answer of the same bytes is not shared.
func TestPutTwiceBehindTheSame(t *testing.T) {
	base := make([]byte, 1, 16)
	first := pack.U16(base, 1)
	second := pack.U16(base, 2)
	wantBytes(t, "first", first, []byte{0, 0, 1})
	wantBytes(t, "second", second, []byte{0, 0, 2})
}

// R3: a text, and what it is put behind, may be the same memory.
func TestTextBehindItself(t *testing.T) {
	b := []byte("abc")
	got, e := pack.Text(b, b[1:])
	wantErr(t, "Text", e, api.OK)
	wantBytes(t, "Text", got, []byte("abc\x02bc"))
	got[4] = 'x'
	wantBytes(t, "handed in", b, []byte("abc"))
}

// P1.5: of two numbers of one width the lesser one's bytes stand ahead.
func TestNumbersStandInTheirOrder(t *testing.T) {
	rising := []uint64{0, 1, 2, 127, 128, 254, 255, 256, 257, 511, 512, 32767, 32768, 65279, 65280, 65535,
		65536, 1<<24 - 1, 1 << 24, 1<<31 - 1, 1 << 31, 1<<32 - 1, 1 << 32, 1<<56 - 1, 1 << 56, 1<<63 - 1, 1 << 63, math.MaxUint64}
	for i, lesser := range rising {
		for _, greater := range rising[i+1:] {
			if greater <= math.MaxUint16 && pack.Compare(pack.U16(nil, uint16(lesser)), pack.U16(nil, uint16(greater))) != -1 {
				t.Errorf("U16: %d does not stand ahead of %d", lesser, greater)
			}
			if greater <= math.MaxUint32 && pack.Compare(pack.U32(nil, uint32(lesser)), pack.U32(nil, uint32(greater))) != -1 {
				t.Errorf("U32: %d does not stand ahead of %d", lesser, greater)
			}
			if pack.Compare(pack.U64(nil, lesser), pack.U64(nil, greater)) != -1 {
				t.Errorf("U64: %d does not stand ahead of %d", lesser, greater)
			}
		}
	}
}
