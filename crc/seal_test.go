package crc_test

import (
	"bytes"
	"fmt"
	"testing"

	"incipit/crc"
)

func wantBytes(t *testing.T, what string, got, want []byte) {
	t.Helper()
	if !bytes.Equal(got, want) {
		t.Errorf("%s: %v, not %v", what, got, want)
	}
}

// wantShut asks that Open says no, and hands out nothing.
func wantShut(t *testing.T, what string, b []byte) {
	t.Helper()
	if got, is := crc.Open(b); is || got != nil {
		t.Errorf("%s: Open(%v) answers %v, %v", what, b, got, is)
	}
}

// P2.3: the sum stands ahead, its highest byte first.
func TestSealPutsTheSumAhead(t *testing.T) {
	wantBytes(t, "the nine letters", crc.Seal([]byte("123456789")), []byte("\xe3\x06\x92\x83123456789"))
	wantBytes(t, "no bytes", crc.Seal(nil), []byte{0, 0, 0, 0})
	for n := range 300 {
		b := run(n, 11)
		s := plainSum(b)
		wantBytes(t, fmt.Sprint("length ", n), crc.Seal(b), append([]byte{byte(s >> 24), byte(s >> 16), byte(s >> 8), byte(s)}, b...))
	}
}

// P2.3: what was sealed is opened, no bytes too.
func TestOpenTellsWhatWasSealed(t *testing.T) {
	for n := range 300 {
		b := run(n, 12)
		got, is := crc.Open(crc.Seal(b))
		if !is {
			t.Fatal("Open says no at length", n)
		}
		wantBytes(t, fmt.Sprint("length ", n), got, b)
	}
	if got, is := crc.Open([]byte{0, 0, 0, 0}); !is || len(got) != 0 {
		t.Error("four noughts are the Seal of no bytes", got, is)
	}
}

// P2.3: fewer than four bytes, and four that are not the sum of none, are no Seal.
func TestOpenOfTooFewBytes(t *testing.T) {
	wantShut(t, "nil", nil)
	wantShut(t, "no bytes", []byte{})
	sealed := crc.Seal([]byte("123456789"))
	for n := range 4 {
		wantShut(t, "noughts", make([]byte, n))
		wantShut(t, "a beginning", sealed[:n])
	}
	wantShut(t, "the sum alone", sealed[:4])
	for i := range 32 {
		b := make([]byte, 4)
		b[i/8] = 1 << (i % 8)
		wantShut(t, "four bytes", b)
	}
}

// P2.3: bytes that are cut off, or stand behind, or whose sum stands the other way round.
func TestOpenOfOtherBytes(t *testing.T) {
	sealed := crc.Seal([]byte("123456789"))
	for n := range len(sealed) {
		wantShut(t, "a beginning", sealed[:n])
	}
	wantShut(t, "one more", append(bytes.Clone(sealed), 0))
	wantShut(t, "not sealed", []byte("123456789"))
	wantShut(t, "turned round", []byte("\x83\x92\x06\xe3123456789"))
	wantShut(t, "sum behind", []byte("123456789\xe3\x06\x92\x83"))
}

// changes: ways to change one to four bytes in a row, as what is turned over into each.
func changes() [][4]byte {
	var out [][4]byte
	for i := range 32 {
		for j := range i + 1 {
			var c [4]byte
			c[i/8] |= 1 << (i % 8)
			c[j/8] |= 1 << (j % 8)
			out = append(out, c)
		}
	}
	for i := range 200 {
		out = append(out, [4]byte(run(4, uint32(i))))
	}
	poly := [4]byte{0x82, 0xf6, 0x3b, 0x78} // were the polynomial itself not told, it would be one of these
	turned := [4]byte{0x78, 0x3b, 0xf6, 0x82}
	return append(out, poly, turned, [4]byte{255, 255, 255, 255}, [4]byte{0, 255, 0, 0}, [4]byte{1, 0, 0, 1})
}

// P2.5: bytes changed within four in a row, all in the sum, or all behind it, are told.
func TestOneFaultIsTold(t *testing.T) {
	all := changes()
	for _, n := range []int{0, 1, 2, 3, 4, 5, 9, 40, 256} {
		sealed := crc.Seal(run(n, 13))
		for at := range sealed {
			for _, c := range all {
				end := min(at+4, len(sealed))
				if at < 4 {
					end = 4
				}
				bad := bytes.Clone(sealed)
				for i := at; i < end; i++ {
					bad[i] ^= c[i-at]
				}
				if !bytes.Equal(bad, sealed) {
					wantShut(t, fmt.Sprintf("length %d, changed at %d by %v", n, at, c), bad)
				}
			}
		}
	}
}
