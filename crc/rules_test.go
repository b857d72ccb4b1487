package crc_test

import (
	"bytes"
	"testing"

	"incipit/crc"
)

// within answers b with other bytes ahead and behind it in one piece of memory, and a copy of all of it.
func within(b []byte) (all, part, was []byte) {
	all = append(append(bytes.Repeat([]byte{7}, 8), b...), bytes.Repeat([]byte{8}, 64)...)
	return all, all[8 : 8+len(b)], bytes.Clone(all)
}

// R3: what is handed in is as it was, and so is what stands behind it in the same memory.
func TestWhatIsHandedInStays(t *testing.T) {
	for _, b := range [][]byte{nil, []byte("123456789"), crc.Seal([]byte("123456789")), {1, 2, 3}, {0, 0, 0, 0}, run(256, 14)} {
		all, part, was := within(b)
		crc.Of(part, part)
		crc.Add(5, part, part)
		crc.Seal(part)
		crc.Open(part)
		wantBytes(t, "handed in", all, was)
	}
}

// R3: a list of parts is as it was, too.
func TestTheListOfPartsStays(t *testing.T) {
	one, two := []byte("1234"), []byte("56789")
	parts := [][]byte{one, nil, two}
	crc.Of(parts...)
	crc.Add(5, parts...)
	if len(parts) != 3 || &parts[0][0] != &one[0] || parts[1] != nil || &parts[2][0] != &two[0] || len(parts[0]) != 4 || len(parts[2]) != 5 {
		t.Error("the list was changed", parts)
	}
}

// R3: what is answered stays as it is when what was handed in is changed, and the other way round.
func TestWhatIsAnsweredIsNobodysElse(t *testing.T) {
	for _, n := range []int{0, 1, 4, 9, 256} {
		b := run(n, 15)
		want := bytes.Clone(b)
		sealed := crc.Seal(b)
		wantSealed := bytes.Clone(sealed)
		turnAll(b)
		wantBytes(t, "Seal", sealed, wantSealed)
		opened, _ := crc.Open(sealed)
		turnAll(sealed)
		wantBytes(t, "Open", opened, want)
		turnAll(opened)
		turnAll(sealed)
		wantBytes(t, "Open's argument", sealed, wantSealed)
		opened = append(opened, 1, 2, 3, 4)
		wantBytes(t, "Open's argument behind a growth", sealed, wantSealed)
	}
}

// R3: two answers of the same bytes share nothing.
func TestTwoAnswersShareNothing(t *testing.T) {
	sealed := crc.Seal([]byte("123456789"))
	again := crc.Seal([]byte("123456789"))
	one, _ := crc.Open(again)
	two, _ := crc.Open(again)
	turnAll(one)
	turnAll(again)
	wantBytes(t, "Open", two, []byte("123456789"))
	wantBytes(t, "Seal", sealed, []byte("\xe3\x06\x92\x83123456789"))
}

// R4: empty and nil are the same.
func TestEmptyAndNilAreTheSame(t *testing.T) {
	var none [][]byte
	wantSum(t, "Of", crc.Of(none...), crc.Of([][]byte{}...))
	wantSum(t, "Add", crc.Add(7, none...), crc.Add(7, [][]byte{}...))
	wantSum(t, "Of a part", crc.Of(nil), crc.Of([]byte{}))
	wantBytes(t, "Seal", crc.Seal(nil), crc.Seal([]byte{}))
	_, isNil := crc.Open(nil)
	_, isEmpty := crc.Open([]byte{})
	if isNil != isEmpty {
		t.Error("Open", isNil, isEmpty)
	}
}

// R6: the same calls answer the same, also when other calls stand between them.
func TestTheSameCallsAnswerTheSame(t *testing.T) {
	b := run(100, 16)
	sum, added, both, sealed := crc.Of(b), crc.Add(9, b), crc.Two(1, 2, 100), crc.Seal(b)
	for range 3 {
		wantSum(t, "Of", crc.Of(b), sum)
		wantSum(t, "Add", crc.Add(9, b), added)
		wantSum(t, "Two", crc.Two(1, 2, 100), both)
		wantBytes(t, "Seal", crc.Seal(b), sealed)
		if opened, is := crc.Open(sealed); !is || !bytes.Equal(opened, b) {
			t.Error("Open", opened, is)
		}
	}
}

// THE BOUND: many bytes, and many parts, are gone over once.
func TestManyBytesAndPartsInTime(t *testing.T) {
	const n = 1 << 22
	b := run(n, 17)
	parts := make([][]byte, n)
	for i := range parts {
		parts[i] = b[i : i+1]
	}
	want := plainSum(b)
	wantSum(t, "Of", crc.Of(b), want)
	wantSum(t, "Of parts", crc.Of(parts...), want)
	if opened, is := crc.Open(crc.Seal(b)); !is || !bytes.Equal(opened, b) {
		t.Error("Open")
	}
}

// turnAll turns each bit of b.
func turnAll(b []byte) {
	for i := range b {
		b[i] ^= 255
	}
}
