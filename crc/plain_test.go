package crc_test

import (
	"testing"

	"incipit/api"
)

// The chapter's own words, bit by bit: what the package's tables and powers are held against.

// plainOn is the register that goes on by each byte.
func plainOn(register uint32, b []byte) uint32 {
	for _, c := range b {
		register ^= uint32(c)
		for range 8 {
			fell := register & 1
			register >>= 1
			if fell == 1 {
				register ^= api.CrcPoly
			}
		}
	}
	return register
}

// plainSum is the sum of bytes.
func plainSum(b []byte) uint32 { return ^plainOn(0xffffffff, b) }

// plainTwo goes on by n noughts, one by one.
func plainTwo(a, b uint32, n int) uint32 {
	return plainOn(a, make([]byte, n)) ^ b
}

// noughts tells where each of the register's bits leads to, behind some number of noughts.
type noughts [32]uint32

func (m noughts) of(register uint32) uint32 {
	var out uint32
	for bit, to := range m {
		if register>>bit&1 == 1 {
			out ^= to
		}
	}
	return out
}

// twice goes on by as many noughts again.
func (m noughts) twice() noughts {
	var out noughts
	for bit, to := range m {
		out[bit] = m.of(to)
	}
	return out
}

// greatTwo is Two for an n up to which nobody can count: the noughts of each of n's bits, one behind the other.
func greatTwo(a, b uint32, n int) uint32 {
	var m noughts
	for bit := range m {
		m[bit] = plainOn(1<<bit, []byte{0})
	}
	for ; n > 0; n >>= 1 {
		if n&1 == 1 {
			a = m.of(a)
		}
		m = m.twice()
	}
	return a ^ b
}

// run answers n bytes that look like no rule, always the same ones of a seed.
func run(n int, seed uint32) []byte {
	b := make([]byte, n)
	for i := range b {
		seed = seed*1664525 + 1013904223
		b[i] = byte(seed >> 24)
	}
	return b
}

// sums: registers at their edges, and some between.
var sums = []uint32{0, 1, 2, 0x80000000, 0x7fffffff, 0xffffffff, 0xfffffffe, api.CrcPoly, 0x12345678, 0xdeadbeef}

func wantSum(t *testing.T, what string, got, want uint32) {
	t.Helper()
	if got != want {
		t.Errorf("%s: %08x, not %08x", what, got, want)
	}
}
