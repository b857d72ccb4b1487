package pack_test

import (
	"bytes"
	"testing"

	"incipit/api"
	"incipit/pack"
)

// R4: empty and nil bytes are the same to each call.
func TestEmptyAndNilAreTheSame(t *testing.T) {
	empty := []byte{}
	fromNil, fromEmpty := putAll(nil), putAll(empty)
	for what := range fromNil {
		wantBytes(t, what, fromEmpty[what], fromNil[what])
	}
	textOfNil, e1 := pack.Text([]byte{9}, nil)
	textOfEmpty, e2 := pack.Text([]byte{9}, empty)
	if e1 != api.OK || e2 != api.OK || !bytes.Equal(textOfNil, textOfEmpty) {
		t.Error("Text", textOfNil, e1, textOfEmpty, e2)
	}
	if pack.Compare(nil, empty) != 0 || pack.Compare(empty, nil) != 0 || pack.Prefix(nil, empty) != 0 {
		t.Error("Compare, Prefix")
	}
	_, isNil := pack.After(nil)
	_, isEmpty := pack.After(empty)
	if isNil || isEmpty {
		t.Error("After", isNil, isEmpty)
	}
	if pack.Read(nil).End() != pack.Read(empty).End() {
		t.Error("Read")
	}
}

// R6: the same calls answer the same, also when other calls stand between them.
func TestTheSameCallsAnswerTheSame(t *testing.T) {
	b := []byte{1, 2, 255, 128, 3}
	first := putAll(b)
	r1, r2 := pack.Read(b), pack.Read(b)
	for range 3 {
		for what, got := range putAll(b) {
			wantBytes(t, what, got, first[what])
		}
		if r1.U8() != r2.U8() || r1.Var() != r2.Var() || r1.Left() != r2.Left() || r1.Err() != r2.Err() {
			t.Fatal("two readers of the same bytes part")
		}
	}
}

// THE BOUND: many bytes, taken one by one, are not gone through for each of them.
func TestManyBytesAreTakenInTime(t *testing.T) {
	const n = 1 << 20
	r := pack.Read(bytes.Repeat([]byte{128, 1}, n/2))
	for range n / 2 {
		if r.Var() != 128 {
			t.Fatal(r.Err(), r.Left())
		}
	}
	wantErr(t, "End", r.End(), api.OK)
}
