package crc_test

import (
	"fmt"
	"math"
	"testing"

	"incipit/crc"
)

// P2.2, P2.4: Two tells the sum of both rows of bytes of their sums alone.
func TestTwoIsTheSumOfBoth(t *testing.T) {
	wantSum(t, "the nine letters", crc.Two(plainSum([]byte("1234")), plainSum([]byte("56789")), 5), 0xe3069283)
	b := run(700, 7)
	for _, n := range []int{0, 1, 2, 3, 4, 7, 8, 9, 31, 32, 33, 63, 64, 255, 256, 257, 300} {
		for _, cut := range []int{0, 1, 2, 100, 400} {
			x, y := b[:cut], b[cut:cut+n]
			wantSum(t, fmt.Sprintf("%d and %d bytes", cut, n), crc.Two(plainSum(x), plainSum(y), n), plainSum(b[:cut+n]))
		}
	}
}

// P2.2: of whatever sums, the register goes on by n noughts as the chapter says.
func TestTwoGoesOnByNoughts(t *testing.T) {
	for n := range 300 {
		for _, a := range sums {
			for _, b := range []uint32{0, 9, 0xffffffff} {
				wantSum(t, fmt.Sprintf("Two %08x %08x %d", a, b, n), crc.Two(a, b, n), plainTwo(a, b, n))
			}
		}
	}
}

// P2.2: each of the register's bits goes its own way.
func TestTwoOfEachBit(t *testing.T) {
	for bit := range 32 {
		for _, n := range []int{1, 2, 3, 4, 5, 1000} {
			wantSum(t, fmt.Sprintf("bit %d, %d noughts", bit, n), crc.Two(1<<bit, 0, n), plainTwo(1<<bit, 0, n))
		}
	}
}

// P2.2: with n 0 b is turned over into a; with n below 0 it is a, whatever b is.
func TestTwoWithoutNoughts(t *testing.T) {
	for _, a := range sums {
		for _, b := range sums {
			wantSum(t, "n 0", crc.Two(a, b, 0), a^b)
			for _, n := range []int{-1, -2, -8, -1 << 20, math.MinInt + 1, math.MinInt} {
				wantSum(t, fmt.Sprint("n ", n), crc.Two(a, b, n), a)
			}
		}
	}
}

// P2.2, R1, THE BOUND: a great n ends, and is right.
func TestTwoWithAGreatN(t *testing.T) {
	wantSum(t, "the other way to count", greatTwo(0x12345678, 5, 1<<20+3), plainTwo(0x12345678, 5, 1<<20+3))
	for _, a := range sums {
		wantSum(t, "1<<20", crc.Two(a, 5, 1<<20), plainTwo(a, 5, 1<<20))
		for _, n := range []int{1<<29 - 1, 1 << 29, 1<<31 - 2, 1<<31 - 1, math.MaxInt / 8, math.MaxInt/8 + 1, math.MaxInt / 3, math.MaxInt - 1, math.MaxInt} {
			wantSum(t, fmt.Sprintf("Two %08x 5 %d", a, n), crc.Two(a, 5, n), greatTwo(a, 5, n))
		}
	}
}

// P2.4: three rows, put together from the left or from the right.
func TestTwoOfThree(t *testing.T) {
	x, y, z := run(11, 8), run(270, 9), run(5, 10)
	a, b, c := plainSum(x), plainSum(y), plainSum(z)
	want := crc.Of(x, y, z)
	wantSum(t, "from the left", crc.Two(crc.Two(a, b, len(y)), c, len(z)), want)
	wantSum(t, "from the right", crc.Two(a, crc.Two(b, c, len(z)), len(y)+len(z)), want)
}
