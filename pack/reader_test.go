package pack_test

import (
	"bytes"
	"math"
	"testing"

	"incipit/api"
	"incipit/pack"
)

// P1.2: numbers and bytes are taken one behind the other, and Left tells what is left.
func TestTakeOrdinary(t *testing.T) {
	r := pack.Read([]byte{1, 2, 3, 4, 5, 6, 7, 8, 9, 10, 11, 12, 13, 14, 15, 172, 2, 2, 'a', 'b', 'c', 'd', 'e'})
	if v := r.U8(); v != 1 || r.Left() != 22 {
		t.Error("U8", v, r.Left())
	}
	if v := r.U16(); v != 0x0203 || r.Left() != 20 {
		t.Error("U16", v, r.Left())
	}
	if v := r.U32(); v != 0x04050607 || r.Left() != 16 {
		t.Error("U32", v, r.Left())
	}
	if v := r.U64(); v != 0x08090a0b0c0d0e0f || r.Left() != 8 {
		t.Error("U64", v, r.Left())
	}
	if v := r.Var(); v != 300 || r.Left() != 6 {
		t.Error("Var", v, r.Left())
	}
	if v := r.Text(2); string(v) != "ab" || r.Left() != 3 {
		t.Error("Text", v, r.Left())
	}
	if v := r.Raw(2); string(v) != "cd" || r.Left() != 1 {
		t.Error("Raw", v, r.Left())
	}
	wantErr(t, "End with a byte left", r.End(), api.ErrMore)
	wantErr(t, "Err behind ErrMore of End", r.Err(), api.OK)
	if v := r.Raw(1); string(v) != "e" || r.Left() != 0 {
		t.Error("the byte behind End", v, r.Left())
	}
	wantErr(t, "End", r.End(), api.OK)
	wantErr(t, "Err", r.Err(), api.OK)
}

// P1.2: of nothing, nothing is taken without an error, and the end is reached at once.
func TestTakeFromNothing(t *testing.T) {
	for _, b := range [][]byte{nil, {}} {
		r := pack.Read(b)
		wantErr(t, "Err", r.Err(), api.OK)
		wantErr(t, "End", r.End(), api.OK)
		if v := r.Raw(0); len(v) != 0 || r.Left() != 0 {
			t.Error("Raw(0)", v, r.Left())
		}
		wantErr(t, "Err behind Raw(0)", r.Err(), api.OK)
	}
}

// P1.2: Var takes each form back, whatever stands behind it.
func TestTakeVar(t *testing.T) {
	for _, c := range varForms {
		r := pack.Read(append(bytes.Clone(c.form), 200, 0))
		if v := r.Var(); v != c.v || r.Left() != 2 || r.Err() != api.OK {
			t.Errorf("Var of %v: %d, %d left, error %d; not %d", c.form, v, r.Left(), r.Err(), c.v)
		}
	}
}

// P1.2: a text of just as many bytes as may be, and of none.
func TestTakeText(t *testing.T) {
	for _, n := range []int{0, 1, 254, 255} {
		for _, most := range []int{n, n + 1, 255, 256, math.MaxInt} {
			r := pack.Read(append([]byte{byte(n)}, run(n)...))
			v := r.Text(most)
			wantErr(t, "Text", r.End(), api.OK)
			wantBytes(t, "Text", v, run(n))
		}
	}
}

// take is a call that takes; it answers whether its result was the zero value.
type take func(r *pack.Reader) bool

func raw(n int) take {
	return func(r *pack.Reader) bool { return r.Raw(n) == nil }
}

func text(most int) take {
	return func(r *pack.Reader) bool { return r.Text(most) == nil }
}

func u8(r *pack.Reader) bool  { return r.U8() == 0 }
func u16(r *pack.Reader) bool { return r.U16() == 0 }
func u32(r *pack.Reader) bool { return r.U32() == 0 }
func u64(r *pack.Reader) bool { return r.U64() == 0 }
func vr(r *pack.Reader) bool  { return r.Var() == 0 }

var wrongTakes = []struct {
	what string
	b    []byte
	do   take
	want api.Errno
}{
	{"U8 of nothing", nil, u8, api.ErrShort},
	{"U16 of nothing", nil, u16, api.ErrShort},
	{"U16 of one", run(1), u16, api.ErrShort},
	{"U32 of nothing", nil, u32, api.ErrShort},
	{"U32 of three", []byte{1, 2, 3}, u32, api.ErrShort},
	{"U64 of nothing", nil, u64, api.ErrShort},
	{"U64 of seven", []byte{1, 2, 3, 4, 5, 6, 7}, u64, api.ErrShort},
	{"Raw of one more", run(3), raw(4), api.ErrShort},
	{"Raw of very many", run(3), raw(math.MaxInt), api.ErrShort},
	{"Raw of one of nothing", nil, raw(1), api.ErrShort},
	{"Raw of -1", run(3), raw(-1), api.ErrArg},
	{"Raw of -1 of nothing", nil, raw(-1), api.ErrArg},
	{"Raw of the least number", run(3), raw(math.MinInt), api.ErrArg},
	{"Var of nothing", nil, vr, api.ErrShort},
	{"Var that ends at 1", []byte{128}, vr, api.ErrShort},
	{"Var that ends at 2", []byte{129, 130}, vr, api.ErrShort},
	{"Var that ends at 4", []byte{255, 255, 255, 255}, vr, api.ErrShort},
	{"Var with a fifth byte 16", []byte{255, 255, 255, 255, 16}, vr, api.ErrVar},
	{"Var with a fifth byte 127", []byte{128, 128, 128, 128, 127}, vr, api.ErrVar},
	{"Var with a fifth byte 128", []byte{128, 128, 128, 128, 128}, vr, api.ErrVar},
	{"Var with a fifth byte 129", []byte{128, 128, 128, 128, 129, 1}, vr, api.ErrVar},
	{"Var with a fifth byte 255", []byte{255, 255, 255, 255, 255, 255}, vr, api.ErrVar},
	{"Var with a second byte 0", []byte{128, 0}, vr, api.ErrVar},
	{"Var with a third byte 0", []byte{129, 128, 0, 5}, vr, api.ErrVar},
	{"Var with a fourth byte 0", []byte{255, 255, 255, 0}, vr, api.ErrVar},
	{"Var with a fifth byte 0", []byte{255, 255, 255, 255, 0}, vr, api.ErrVar},
	{"Text of -1", []byte{1, 'a'}, text(-1), api.ErrArg},
	{"Text of -1 of nothing", nil, text(-1), api.ErrArg},
	{"Text of the least number", []byte{0}, text(math.MinInt), api.ErrArg},
	{"Text of nothing", nil, text(0), api.ErrShort},
	{"Text of nothing, of many", nil, text(255), api.ErrShort},
	{"Text of one more than may be", []byte{3, 'a', 'b', 'c'}, text(2), api.ErrLong},
	{"Text too long, and cut", []byte{3}, text(2), api.ErrLong},
	{"Text of one, of none", []byte{1, 'a'}, text(0), api.ErrLong},
	{"Text of one byte less", []byte{3, 'a', 'b'}, text(3), api.ErrShort},
	{"Text of its length alone", []byte{255}, text(255), api.ErrShort},
}

// P1.2: the first of the errors that apply; with it nothing is taken, and the zero value is answered.
func TestTakeWrong(t *testing.T) {
	for _, c := range wrongTakes {
		r := pack.Read(c.b)
		if !c.do(r) {
			t.Errorf("%s: not the zero value", c.what)
		}
		wantErr(t, c.what, r.Err(), c.want)
		wantErr(t, c.what+", End", r.End(), c.want)
		if r.Left() != len(c.b) {
			t.Errorf("%s: %d left, not %d", c.what, r.Left(), len(c.b))
		}
	}
}

// everyTake: each call that takes, with arguments that would be right, and wrong ones.
func everyTake() []take {
	return []take{u8, u16, u32, u64, vr, raw(0), raw(1), raw(-1), raw(math.MaxInt), text(255), text(0), text(-1)}
}

// P1.2: behind the first error all calls answer the zero value and take nothing, and the error stays the first one.
func TestTakeBehindAnError(t *testing.T) {
	firsts := []struct {
		do   take
		want api.Errno
	}{
		{raw(-1), api.ErrArg},
		{raw(100), api.ErrShort},
		{text(1), api.ErrLong},
	}
	for _, first := range firsts {
		// Each call but the first one would find something here that is not the zero value.
		b := []byte{2, 'a', 'b', 1, 1, 1, 1, 1, 1}
		r := pack.Read(b)
		first.do(r)
		for i, next := range everyTake() {
			if !next(r) {
				t.Errorf("call %d behind error %d: not the zero value", i, first.want)
			}
			wantErr(t, "Err behind it", r.Err(), first.want)
			wantErr(t, "End behind it", r.End(), first.want)
			if r.Left() != len(b) {
				t.Errorf("call %d behind error %d took %d bytes", i, first.want, len(b)-r.Left())
			}
		}
	}
}

// P1.2: an error behind right takes leaves what these left, at its place.
func TestTakeErrorInTheMiddle(t *testing.T) {
	r := pack.Read([]byte{7, 128, 0, 9})
	if r.U8() != 7 || r.Var() != 0 || r.U8() != 0 || r.Left() != 3 {
		t.Error("left", r.Left())
	}
	wantErr(t, "Err", r.Err(), api.ErrVar)
}

// P1.2, R5: of a reader that no call made Err and End are ErrMade, and all else is the zero value.
func TestReaderThatNoCallMade(t *testing.T) {
	for _, r := range []*pack.Reader{nil, {}, new(pack.Reader)} {
		wantErr(t, "Err", r.Err(), api.ErrMade)
		wantErr(t, "End", r.End(), api.ErrMade)
		for i, do := range everyTake() {
			if !do(r) {
				t.Errorf("call %d: not the zero value", i)
			}
			wantErr(t, "Err behind a call", r.Err(), api.ErrMade)
			wantErr(t, "End behind a call", r.End(), api.ErrMade)
		}
		if r.Left() != 0 {
			t.Error("Left", r.Left())
		}
	}
}

// R3: a reader keeps bytes of its own: who handed them in may change them.
func TestReaderKeepsACopy(t *testing.T) {
	b := []byte{1, 2, 'a', 'b', 5, 6}
	r := pack.Read(b)
	for i := range b {
		b[i] = 99
	}
	if r.U8() != 1 || string(r.Text(9)) != "ab" || !bytes.Equal(r.Raw(2), []byte{5, 6}) || r.End() != api.OK {
		t.Error("the reader sees what its bytes' owner does")
	}
}

// R3: what Raw and Text answer is nobody's else: neither the owner's of the bytes, nor the reader's, nor another answer's.
func TestTakenBytesAreNobodysElse(t *testing.T) {
	b := []byte{'x', 'y', 2, 'a', 'b', 'z', 'w'}
	r := pack.Read(b)
	first := r.Raw(2)
	second := r.Text(2)
	for _, answer := range [][]byte{first, second} {
		whole := answer[:cap(answer)]
		for i := range whole {
			whole[i] = 0
		}
	}
	wantBytes(t, "the next answer", r.Raw(2), []byte("zw"))
	wantBytes(t, "handed in", b, []byte{'x', 'y', 2, 'a', 'b', 'z', 'w'})
	again := pack.Read(b)
	kept := again.Raw(2)
	before := bytes.Clone(kept)
	again.Text(2)
	again.Raw(9)
	wantBytes(t, "an answer behind later calls", kept, before)
}

// R3: neither does a reader that was copied as it stands see what was answered from the other one.
func TestTakenBytesOfACopiedReader(t *testing.T) {
	r := pack.Read([]byte{2, 'a', 'b', 'c', 'd'})
	other := *r
	text, raw := r.Text(2), r.Raw(2)
	text[0], raw[0] = 'x', 'x'
	wantBytes(t, "Text", other.Text(2), []byte("ab"))
	wantBytes(t, "Raw", other.Raw(2), []byte("cd"))
}

// put is one thing that is put, and is asked for again.
type put struct {
	put  func(b []byte) []byte
	took func(r *pack.Reader) bool
}

func puts() []put {
	var all []put
	for _, v := range []uint64{0, 1, 127, 128, 255, 256, 300, 65535, 65536, 1<<21 - 1, 1 << 28, 1<<32 - 1, 1 << 32, 1 << 63, math.MaxUint64} {
		all = append(all,
			put{func(b []byte) []byte { return pack.U16(b, uint16(v)) }, func(r *pack.Reader) bool { return r.U16() == uint16(v) }},
			put{func(b []byte) []byte { return pack.U32(b, uint32(v)) }, func(r *pack.Reader) bool { return r.U32() == uint32(v) }},
			put{func(b []byte) []byte { return pack.U64(b, v) }, func(r *pack.Reader) bool { return r.U64() == v }},
			put{func(b []byte) []byte { return pack.Var(b, uint32(v)) }, func(r *pack.Reader) bool { return r.Var() == uint32(v) }},
			put{func(b []byte) []byte { return append(b, byte(v)) }, func(r *pack.Reader) bool { return r.U8() == byte(v) }},
		)
	}
	for _, n := range []int{0, 1, 2, 127, 128, 254, 255} {
		all = append(all,
			put{func(b []byte) []byte { out, _ := pack.Text(b, run(n)); return out }, func(r *pack.Reader) bool { return bytes.Equal(r.Text(n), run(n)) }},
			put{func(b []byte) []byte { return append(b, run(n)...) }, func(r *pack.Reader) bool { return bytes.Equal(r.Raw(n), run(n)) }},
		)
	}
	return all
}

// P1.4: what was put, one behind the other, is taken in that order, and nothing is left.
func TestThereAndBack(t *testing.T) {
	all := puts()
	for step := 1; step < len(all); step++ {
		var b []byte
		for i := 0; i < len(all); i += step {
			b = all[i].put(b)
		}
		r := pack.Read(b)
		for i := 0; i < len(all); i += step {
			if !all[i].took(r) {
				t.Fatalf("every %d. of them: thing %d is another one", step, i)
			}
		}
		wantErr(t, "End", r.End(), api.OK)
	}
}

// R1: bytes of all kinds are taken by each call without a panic, and no call takes more than there is.
func FuzzTake(f *testing.F) {
	f.Add([]byte{172, 2, 3, 'a', 'b', 'c'}, []byte{4, 11, 6}, 3)
	f.Add([]byte{128, 0}, []byte{4}, -1)
	f.Fuzz(func(t *testing.T, b, calls []byte, n int) {
		takes := append(everyTake(), raw(n), text(n))
		r := pack.Read(b)
		for _, c := range calls {
			left := r.Left()
			takes[int(c)%len(takes)](r)
			if r.Left() < 0 || r.Left() > left || r.Err() != api.OK && r.End() != r.Err() {
				t.Fatal(left, r.Left(), r.Err(), r.End())
			}
		}
	})
}

// P1.2, P1.1: what Var takes is the form that it puts, and nothing else is.
func FuzzVar(f *testing.F) {
	for _, c := range varForms {
		f.Add(c.form)
	}
	f.Add([]byte{255, 255, 255, 255, 16})
	f.Fuzz(func(t *testing.T, b []byte) {
		r := pack.Read(b)
		v := r.Var()
		taken := b[:len(b)-r.Left()]
		if r.Err() == api.OK && !bytes.Equal(pack.Var(nil, v), taken) || r.Err() != api.OK && (v != 0 || len(taken) != 0) {
			t.Fatal(b, v, r.Left(), r.Err())
		}
	})
}
