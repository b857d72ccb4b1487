package crc_test

import (
	"bytes"
	"fmt"
	"hash/crc32"
	"testing"

	"incipit/crc"
)

// P2.1: the sums that RFC 3720 and others tell.
func TestKnownSums(t *testing.T) {
	rising, falling := make([]byte, 32), make([]byte, 32)
	for i := range rising {
		rising[i], falling[i] = byte(i), byte(31-i)
	}
	for _, known := range []struct {
		what string
		b    []byte
		sum  uint32
	}{
		{"no bytes", nil, 0},
		{"a", []byte("a"), 0xc1d04330},
		{"the nine letters", []byte("123456789"), 0xe3069283},
		{"one nought", []byte{0}, 0x527d5351},
		{"noughts", make([]byte, 32), 0x8a9136aa},
		{"bytes 255", bytes.Repeat([]byte{255}, 32), 0x62a8ab43},
		{"rising bytes", rising, 0x46dd794e},
		{"falling bytes", falling, 0x113fdb5c},
	} {
		wantSum(t, "Of "+known.what, crc.Of(known.b), known.sum)
		wantSum(t, "Add to no bytes "+known.what, crc.Add(0, known.b), known.sum)
	}
}

// P2.1: no parts, and parts without bytes, leave a sum as it is.
func TestNoBytesAddNothing(t *testing.T) {
	wantSum(t, "Of()", crc.Of(), 0)
	wantSum(t, "Of(nil)", crc.Of(nil), 0)
	wantSum(t, "Of(empty, nil, empty)", crc.Of([]byte{}, nil, []byte{}), 0)
	for _, sum := range sums {
		wantSum(t, "Add()", crc.Add(sum), sum)
		wantSum(t, "Add(nil)", crc.Add(sum, nil), sum)
		wantSum(t, "Add(empty, nil, empty)", crc.Add(sum, []byte{}, nil, []byte{}), sum)
	}
}

// P2.1: each byte, from each register, goes on as the chapter says bit by bit.
func TestEachByteGoesOn(t *testing.T) {
	for c := range 256 {
		b := []byte{byte(c)}
		wantSum(t, fmt.Sprint("Of ", b), crc.Of(b), plainSum(b))
		for _, sum := range sums {
			wantSum(t, fmt.Sprintf("Add %08x %v", sum, b), crc.Add(sum, b), ^plainOn(^sum, b))
		}
	}
}

// P2.1: bytes of each length up to more than a page has, by the chapter's words and by another's hand.
func TestSumsOfEachLength(t *testing.T) {
	castagnoli := crc32.MakeTable(crc32.Castagnoli)
	for n := range 600 {
		b := run(n, uint32(n))
		wantSum(t, fmt.Sprint("Of bytes ", n), crc.Of(b), plainSum(b))
		wantSum(t, fmt.Sprint("Of bytes ", n), crc.Of(b), crc32.Checksum(b, castagnoli))
	}
}

// P2.1: the parts' order counts, and Add's bytes stand behind those of its sum.
func TestPartsStandInTheirOrder(t *testing.T) {
	one, two := []byte("1234"), []byte("56789")
	other := plainSum([]byte("567891234"))
	wantSum(t, "Of in order", crc.Of(one, two), 0xe3069283)
	wantSum(t, "Of turned round", crc.Of(two, one), other)
	wantSum(t, "Add in order", crc.Add(plainSum(one), two), 0xe3069283)
	wantSum(t, "Add turned round", crc.Add(plainSum(two), one), other)
}

// P2.4: each cut of a row of bytes into three parts, by Of, by Add, and by Add on a sum that is no known bytes'.
func TestAnyCutTellsTheSame(t *testing.T) {
	b := run(40, 3)
	want := plainSum(b)
	for i := range len(b) + 1 {
		for j := i; j <= len(b); j++ {
			what := fmt.Sprintf("cut at %d and %d", i, j)
			x, y, z := b[:i], b[i:j], b[j:]
			wantSum(t, "Of "+what, crc.Of(x, y, z), want)
			wantSum(t, "Of with empty parts "+what, crc.Of(nil, x, []byte{}, y, nil, z, nil), want)
			wantSum(t, "Add "+what, crc.Add(crc.Of(x), y, z), want)
			wantSum(t, "Add thrice "+what, crc.Add(crc.Add(crc.Add(0, x), y), z), want)
			wantSum(t, "Add to a sum "+what, crc.Add(0xdeadbeef, x, y, z), ^plainOn(^uint32(0xdeadbeef), b))
			wantSum(t, "Add thrice to a sum "+what, crc.Add(crc.Add(crc.Add(0xdeadbeef, x), y), z), ^plainOn(^uint32(0xdeadbeef), b))
			wantSum(t, "Two "+what, crc.Two(crc.Of(x), crc.Of(y, z), len(b)-i), want)
		}
	}
}

// P2.4: a part for each byte.
func TestABytePerPart(t *testing.T) {
	b := run(1000, 4)
	parts := make([][]byte, len(b))
	sum := uint32(0)
	for i := range b {
		parts[i] = b[i : i+1]
		sum = crc.Add(sum, parts[i])
	}
	wantSum(t, "Of", crc.Of(parts...), plainSum(b))
	wantSum(t, "Add one by one", sum, plainSum(b))
}

// P2.6: bytes turned over into others have both sums, and that of the noughts, turned over into one another.
func TestASumIsLinear(t *testing.T) {
	for n := range 300 {
		x, y := run(n, 5), run(n, 6)
		both := make([]byte, n)
		for i := range both {
			both[i] = x[i] ^ y[i]
		}
		wantSum(t, fmt.Sprint("length ", n), crc.Of(both), crc.Of(x)^crc.Of(y)^crc.Of(make([]byte, n)))
	}
}

// Of and Add, of any bytes cut anywhere, are held against the chapter's words.
func FuzzSum(f *testing.F) {
	f.Add([]byte("123456789"), uint(4), uint32(0))
	f.Add([]byte{}, uint(0), uint32(0xffffffff))
	f.Fuzz(func(t *testing.T, b []byte, at uint, sum uint32) {
		cut := int(at % uint(len(b)+1))
		x, y := b[:cut], b[cut:]
		wantSum(t, "Of", crc.Of(x, y), plainSum(b))
		wantSum(t, "Add", crc.Add(sum, x, y), ^plainOn(^sum, b))
		wantSum(t, "Two", crc.Two(plainSum(x), plainSum(y), len(y)), plainSum(b))
		if got, is := crc.Open(b); is && !bytes.Equal(crc.Seal(got), b) {
			t.Error("Open", b, got)
		}
	})
}
