package fold_test

import (
	"bytes"
	"fmt"
	"slices"
	"testing"

	"incipit/fold"
)

// singles is what bytes are told as, if no form stands anywhere in them.
func singles(b []byte) []at {
	var l []at
	for i := range b {
		l = append(l, at{i, 0xFFFD})
	}
	return l
}

// P13.1, R4: no bytes have no runes.
func TestRunesOfNoBytes(t *testing.T) {
	for _, none := range [][]byte{nil, {}, make([]byte, 0, 9)} {
		wantRunes(t, none, nil)
	}
}

// P13.1: the chapter's example, and the runes of a text by hand.
func TestRunesByHand(t *testing.T) {
	wantRunes(t, []byte{255, 65}, []at{{0, 0xFFFD}, {1, 'A'}})
	wantRunes(t, []byte("a\u00e9\u20ac\U0001F600b"), []at{{0, 'a'}, {1, 0xE9}, {3, 0x20AC}, {6, 0x1F600}, {10, 'b'}})
	wantRunes(t, []byte{0xEF, 0xBF, 0xBD, 0xEF, 0xBF, 'x', 0}, []at{{0, 0xFFFD}, {3, 0xFFFD}, {4, 0xFFFD}, {5, 'x'}, {6, 0}})
	wantRunes(t, []byte{0xEF, 0xBB, 0xBF, 'x'}, []at{{0, 0xFEFF}, {3, 'x'}})
}

// P13.1: each byte alone is itself below 128, and U+FFFD from there on.
func TestRunesOfEachByteAlone(t *testing.T) {
	for x := range 256 {
		want := at{0, rune(x)}
		if x >= 128 {
			want.r = 0xFFFD
		}
		wantRunes(t, []byte{byte(x)}, []at{want})
	}
}

// P13.1: the first and the last rune of each width, alone and one behind the other.
func TestRunesOfEachWidth(t *testing.T) {
	ends := []struct {
		r rune
		b []byte
	}{
		{0, []byte{0}}, {0x7F, []byte{0x7F}},
		{0x80, []byte{0xC2, 0x80}}, {0x7FF, []byte{0xDF, 0xBF}},
		{0x800, []byte{0xE0, 0xA0, 0x80}}, {0xFFFF, []byte{0xEF, 0xBF, 0xBF}},
		{0xD7FF, []byte{0xED, 0x9F, 0xBF}}, {0xE000, []byte{0xEE, 0x80, 0x80}},
		{0x10000, []byte{0xF0, 0x90, 0x80, 0x80}}, {0x10FFFF, []byte{0xF4, 0x8F, 0xBF, 0xBF}},
	}
	for _, x := range ends {
		wantRunes(t, x.b, []at{{0, x.r}})
		for _, y := range ends {
			wantRunes(t, slices.Concat(x.b, y.b), []at{{0, x.r}, {len(x.b), y.r}})
		}
	}
}

// P13.1: each rune that has a form is told of it, and no other one of what would be its form.
func TestRunesOfEachRune(t *testing.T) {
	all := make([]byte, 0, 1<<23)
	var want []at
	for r := rune(0); r <= 0x10FFFF; r++ {
		if hasForm(r) {
			want = append(want, at{len(all), r})
			all = append(all, form(r)...)
		}
	}
	wantRunes(t, all, want)
}

// P13.1: U+D800 to U+DFFF have no form, nor has any rune beyond U+10FFFF.
func TestRunesThatHaveNoForm(t *testing.T) {
	for r := rune(0xD800); r <= 0xDFFF; r++ {
		b := longForm(r, 3)
		wantRunes(t, b, singles(b))
	}
	b := slices.Concat(longForm(0xD83D, 3), longForm(0xDE00, 3)) // two halves of one rune, as other forms have it
	wantRunes(t, b, singles(b))
	for r := rune(0x110000); r <= 0x1FFFFF; r += 0x3FF {
		b := longForm(r, 4)
		wantRunes(t, b, singles(b))
	}
	for _, b := range [][]byte{{0xF4, 0x90, 0x80, 0x80}, {0xF5, 0x80, 0x80, 0x80}, {0xF7, 0xBF, 0xBF, 0xBF}, {0xF8, 0x88, 0x80, 0x80, 0x80}, {0xFB, 0xBF, 0xBF, 0xBF, 0xBF}, {0xFC, 0x84, 0x80, 0x80, 0x80, 0x80}, {0xFD, 0xBF, 0xBF, 0xBF, 0xBF, 0xBF}, {0xFE, 0x80}, {0xFF, 0xFF}} {
		wantRunes(t, b, singles(b))
	}
}

// P13.1: forms that are longer than they need be are none.
func TestRunesOfFormsThatAreTooLong(t *testing.T) {
	for _, b := range [][]byte{{0xC0, 0x80}, {0xC0, 0xAF}, {0xC1, 0x81}, {0xC1, 0xBF}, {0xE0, 0x80, 0x80}, {0xE0, 0x81, 0x81}, {0xE0, 0x9F, 0xBF}, {0xF0, 0x80, 0x80, 0x80}, {0xF0, 0x8F, 0xBF, 0xBF}, {0xF8, 0x80, 0x80, 0x80, 0x80}} {
		wantRunes(t, b, singles(b))
		wantRunes(t, append(b, 'x'), append(singles(b), at{len(b), 'x'}))
	}
	for r := range rune(1 << 16) {
		for n := plainWidth(r) + 1; n <= 4; n++ {
			if !hasForm(r) && n == 4 || r < 1<<11 || r%7 == 0 {
				b := longForm(r, n)
				wantRunes(t, b, singles(b))
			}
		}
	}
}

// P13.1: a form that is cut off is none, at the end and ahead of another one: each of its bytes is a rune alone.
func TestRunesOfFormsThatAreCutOff(t *testing.T) {
	behind := [][]byte{nil, {'A'}, {0xC3, 0xA9}, {0xE2, 0x82, 0xAC}, {0xF0, 0x9F, 0x98, 0x80}, {0xFF}, {0xC0}}
	for _, r := range []rune{0x80, 0xE9, 0x7FF, 0x800, 0x20AC, 0xD7FF, 0xE000, 0xFFFF, 0x10000, 0x1F600, 0x10FFFF} {
		whole := form(r)
		for n := 1; n < len(whole); n++ {
			cut := whole[:n]
			wantRunes(t, cut, singles(cut))
			for _, next := range behind {
				b := slices.Concat(cut, next)
				want := singles(cut)
				for _, x := range plainRunes(next) {
					want = append(want, at{n + x.place, x.r})
				}
				wantRunes(t, b, want)
			}
		}
		first := whole[1:] // without its first byte
		wantRunes(t, first, singles(first))
		wantRunes(t, slices.Concat(whole, []byte{0x80}), []at{{0, r}, {len(whole), 0xFFFD}})
	}
}

// P13.1: bytes from 128 to 191 alone are U+FFFD each, however many.
func TestRunesOfBytesThatBeginNothing(t *testing.T) {
	for x := 128; x <= 191; x++ {
		for _, n := range []int{1, 2, 3, 4, 5, 9} {
			b := bytes.Repeat([]byte{byte(x)}, n)
			wantRunes(t, b, singles(b))
		}
	}
}

// P13.1: all two bytes, and up to five of those at which something changes, held against the words.
func TestRunesOfAllShortBytes(t *testing.T) {
	for x := range 1 << 16 {
		b := []byte{byte(x >> 8), byte(x)}
		wantRunes(t, b, plainRunes(b))
	}
	some := []byte{'A', 0x7F, 0x80, 0x8F, 0x90, 0x9F, 0xA0, 0xBF, 0xC1, 0xC2, 0xE0, 0xED, 0xEE, 0xF0, 0xF4, 0xF5}
	for n := range 1 << 16 {
		b := []byte{some[n>>12], some[n>>8&15], some[n>>4&15], some[n&15]}
		wantRunes(t, b, plainRunes(b))
		wantRunes(t, b[:3], plainRunes(b[:3]))
	}
}

// P13.1: drawn bytes, held against the words.
func TestRunesOfDrawnBytes(t *testing.T) {
	r := draws(1)
	for range 4000 {
		b := r.bytes(120)
		wantRunes(t, b, plainRunes(b))
	}
}

// P13.1, R3: an iterator is left behind each rune, and tells all of it again; one that is told to stop tells nothing any more.
func TestRunesLeftAtEachPoint(t *testing.T) {
	r := draws(2)
	for range 200 {
		b := r.bytes(40)
		all, want := fold.Runes(b), plainRunes(b)
		for n := range len(want) + 1 {
			if got := told(all, n); !slices.Equal(got, want[:n]) {
				t.Fatalf("Runes(%x), left behind %d, tells %v", b, n, got)
			}
			if got := told(all, -1); !slices.Equal(got, want) {
				t.Fatalf("Runes(%x), again, tells %v, not %v", b, got, want)
			}
			asked := 0
			all(func(int, rune) bool { asked++; return asked < n })
			if asked != min(max(n, 1), len(want)) {
				t.Fatalf("Runes(%x) tells %d, and was stopped at %d", b, asked, n)
			}
		}
	}
}

// P13.1, R3: one iterator within another, and within itself.
func TestRunesWithinOneAnother(t *testing.T) {
	b := []byte("a\xffé")
	all, inner := fold.Runes(b), 0
	for place, r := range all {
		if got := told(all, -1); !slices.Equal(got, plainRunes(b)) {
			t.Fatalf("within %d, %#x: %v", place, r, got)
		}
		inner++
	}
	if inner != 3 {
		t.Fatal(inner)
	}
}

// P13.1: Letter of each end of each range, and of the runes beside it.
func TestLetterAtTheEnds(t *testing.T) {
	for _, x := range []struct{ first, last rune }{{'0', '9'}, {'A', 'Z'}, {'a', 'z'}, {0xC0, 0xD6}, {0xD8, 0xF6}, {0xF8, 0x24F}, {0x370, 0x4FF}} {
		if fold.Letter(x.first-1) || !fold.Letter(x.first) || !fold.Letter(x.first+1) || !fold.Letter(x.last-1) || !fold.Letter(x.last) || fold.Letter(x.last+1) {
			t.Errorf("about %#x to %#x: %v %v %v %v %v %v", x.first, x.last, fold.Letter(x.first-1), fold.Letter(x.first), fold.Letter(x.first+1), fold.Letter(x.last-1), fold.Letter(x.last), fold.Letter(x.last+1))
		}
	}
	for _, r := range []rune{0xD7, 0xF7, 0, -1, -'A', -0xC0, 0xAA, 0xB5, 0xBA, 0x250, 0x2B0, 0x36F, 0x500, 0x1E00, 0xD800, 0xFFFD, 0x10FFFF, 0x110000, 0x10000 + 'A', 0x100 * 'A', -1<<31 + 'A', -1 << 31, 1<<31 - 1} {
		if fold.Letter(r) {
			t.Errorf("%#x is told to be a letter", r)
		}
	}
}

// P13.1: Letter and Width of all runes, and of what is none, held against the words.
func TestLetterAndWidthOfAllRunes(t *testing.T) {
	letters := 0
	look := func(r rune) {
		if fold.Letter(r) != plainLetter(int64(r)) || fold.Width(r) != plainWidth(r) {
			t.Fatalf("%#x: Letter is %v, Width is %d", r, fold.Letter(r), fold.Width(r))
		}
		if fold.Letter(r) {
			letters++
		}
	}
	for r := rune(-0x1000); r <= 0x111000; r++ {
		look(r)
	}
	if want := 10 + 26 + 26 + (0x24F - 0xC0 + 1 - 2) + (0x4FF - 0x370 + 1); letters != want {
		t.Errorf("there are %d letters, not %d", letters, want)
	}
	for _, r := range edgeRunes() {
		look(r)
	}
}

// P13.1: Width at each end of each of the four widths, and of runes that have no form.
func TestWidthAtTheEnds(t *testing.T) {
	for r, want := range map[rune]int{0: 1, 'A': 1, 0x7F: 1, 0x80: 2, 0xE9: 2, 0x7FF: 2, 0x800: 3, 0xD7FF: 3, 0xE000: 3, 0xFFFD: 3, 0xFFFF: 3, 0x10000: 4, 0x10FFFF: 4,
		0xD800: 3, 0xDBFF: 3, 0xDC00: 3, 0xDFFF: 3, -1: 3, -'A': 3, -1 << 31: 3, 0x110000: 3, 0x1FFFFF: 3, 0x200000: 3, 1<<31 - 1: 3} {
		if got := fold.Width(r); got != want {
			t.Errorf("Width(%#x) is %d, not %d", r, got, want)
		}
	}
	r := draws(3)
	for range 500 {
		b := r.bytes(60)
		sum, text := 0, fold.Text(nil, b)
		for _, x := range fold.Runes(b) {
			sum += fold.Width(x)
		}
		if sum != len(text) {
			t.Fatalf("%s: widths are %d in all, the text has %d bytes", fmt.Sprintf("%x", b), sum, len(text))
		}
	}
}
