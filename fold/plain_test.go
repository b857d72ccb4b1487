package fold_test

import (
	"fmt"
	"iter"
	"math"
	"slices"
	"testing"

	"incipit/api"
	"incipit/fold"
)

// The chapter's own words, done by hand: what the package is held against. Nothing here asks the language, or its library, for a rune's form.

// at is a rune, and the place of its first byte.
type at struct {
	place int
	r     rune
}

// hasForm is whether a rune has a form at all.
func hasForm(r rune) bool { return r >= 0 && r <= 0x10FFFF && !(r >= 0xD800 && r <= 0xDFFF) }

// longForm is a number laid out in so many bytes, as a form of that length would have it, whether it is the shortest one or not.
func longForm(r rune, length int) []byte {
	if length == 1 {
		return []byte{byte(r)}
	}
	b := make([]byte, length)
	for i := length - 1; i > 0; i-- {
		b[i] = 0x80 | byte(r&0x3F)
		r >>= 6
	}
	b[0] = ^byte(0xFF>>length) | byte(r)
	return b
}

// form is a rune's shortest form; that of U+FFFD, if it has none.
func form(r rune) []byte {
	if !hasForm(r) {
		r = 0xFFFD
	}
	return longForm(r, plainWidth(r))
}

// plainWidth is how many bytes a rune's form has, 3 of one that has none.
func plainWidth(r rune) int {
	switch {
	case !hasForm(r):
		return 3
	case r < 1<<7:
		return 1
	case r < 1<<11:
		return 2
	case r < 1<<16:
		return 3
	}
	return 4
}

// numberOf is the number that so many bytes lay out, whatever their highest bits are.
func numberOf(b []byte) rune {
	if len(b) == 1 {
		return rune(b[0])
	}
	r := rune(b[0]) & (0xFF >> (len(b) + 1))
	for _, x := range b[1:] {
		r = r<<6 | rune(x&0x3F)
	}
	return r
}

// plainRunes is the runes of bytes.
func plainRunes(b []byte) []at {
	var l []at
	for i := 0; i < len(b); {
		next := at{i, 0xFFFD}
		width := 1
		for n := 1; n <= 4 && i+n <= len(b); n++ {
			if r := numberOf(b[i : i+n]); hasForm(r) && slices.Equal(form(r), b[i:i+n]) {
				next.r, width = r, n
			}
		}
		l = append(l, next)
		i += width
	}
	return l
}

// plainLetter is whether a number is a letter's.
func plainLetter(r int64) bool {
	switch {
	case r >= 48 && r <= 57, r >= 65 && r <= 90, r >= 97 && r <= 122:
		return true
	case r == 0xD7 || r == 0xF7:
		return false
	}
	return r >= 0xC0 && r <= 0x24F || r >= 0x370 && r <= 0x4FF
}

// plainMayBe is whether a table may be, rune by rune.
func plainMayBe(t []api.Fold) bool {
	if len(t) > 8 {
		return false
	}
	folded := map[int64]bool{}
	for i, f := range t {
		if f.N < 1 || f.N > 256 {
			return false
		}
		for k := range int64(f.N) {
			from := int64(f.From) + k
			if !plainLetter(from) || !plainLetter(int64(f.To)+k) || i+1 < len(t) && int64(t[i+1].From) <= from {
				return false
			}
			folded[from] = true
		}
	}
	for _, f := range t {
		for k := range int64(f.N) {
			if folded[int64(f.To)+k] {
				return false
			}
		}
	}
	return true
}

// two is a rune, and what it is folded to.
type two struct{ from, to rune }

// plainLetters is what a table folds, by rising runes.
func plainLetters(t []api.Fold) []two {
	if !plainMayBe(t) {
		return nil
	}
	var l []two
	for r := rune(0); r <= 0x4FF; r++ {
		if to := plainFolded(t, r); to != r {
			l = append(l, two{r, to})
		}
	}
	return l
}

// plainRune is what a rune is folded to.
func plainRune(t []api.Fold, r rune) rune {
	if !plainMayBe(t) {
		return r
	}
	return plainFolded(t, r)
}

// plainFolded is the same by a table that may be.
func plainFolded(t []api.Fold, r rune) rune {
	for _, f := range t {
		for k := range rune(f.N) {
			if f.From+k == r {
				return f.To + k
			}
		}
	}
	return r
}

// plainText is the runes of bytes, each folded, as a text.
func plainText(t []api.Fold, b []byte) string {
	to := map[rune]rune{}
	for _, x := range plainLetters(t) {
		to[x.from] = x.to
	}
	var text []byte
	for _, x := range plainRunes(b) {
		if folded, is := to[x.r]; is {
			x.r = folded
		}
		text = append(text, form(x.r)...)
	}
	return string(text)
}

// draws is a rule by which bytes and tables are drawn, always the same of a seed.
type draws uint32

// below draws a number from 0 on, below n.
func (r *draws) below(n int) int {
	*r = *r*1664525 + 1013904223
	return int(uint32(*r)>>8) % n
}

// edgeRunes are runes at which something changes, and those beside them: widths, letters, what has no form, and the numbers' ends.
func edgeRunes() []rune {
	var l []rune
	for _, r := range []rune{0, '0', '9', 'A', 'Z', 'a', 'z', 0x7F, 0x80, 0xC0, 0xD7, 0xF7, 0x24F, 0x370, 0x4FF, 0x7FF, 0x800, 0xD800, 0xDFFF, 0xFFFD, 0xFFFF, 0x10000, 0x10FFFF, 0x110000, 0x1FFFFF, 0x200000} {
		l = append(l, r-1, r, r+1)
	}
	for _, f := range fold.Plain() {
		end := f.From + rune(f.N)
		l = append(l, f.From-1, f.From, end-1, end, f.To-1, f.To, f.To+rune(f.N)-1, f.To+rune(f.N))
	}
	return append(l, math.MinInt32, math.MinInt32+1, -0x110000, -256, math.MaxInt32-1, math.MaxInt32)
}

// rune draws a rune, often a letter, or one at which something changes.
func (r *draws) rune() rune {
	edges := edgeRunes()
	switch r.below(4) {
	case 0:
		return edges[r.below(len(edges))]
	case 1:
		return rune(r.below(0x500))
	case 2:
		return rune(r.below(0x110000))
	}
	return rune(r.below(0x80))
}

// bytes draws bytes: forms, forms that are cut off, longer than they need be, or of no rune, and any bytes.
func (r *draws) bytes(most int) []byte {
	b := []byte{}
	for n := r.below(most + 1); len(b) < n; {
		switch r.below(5) {
		case 0:
			b = append(b, byte(r.below(256)))
		case 1:
			x := longForm(rune(r.below(0x110000)), 2+r.below(3))
			b = append(b, x[:1+r.below(len(x))]...)
		case 2:
			b = append(b, 0xED, byte(0xA0+r.below(32)), byte(0x80+r.below(64)))
		default:
			b = append(b, form(r.rune())...)
		}
	}
	return b
}

// letter draws a letter.
func (r *draws) letter() rune {
	for {
		if x := rune(r.below(0x500)); plainLetter(int64(x)) {
			return x
		}
	}
}

// table draws a table: about as often one that may be as one that may not.
func (r *draws) table() []api.Fold {
	t := make([]api.Fold, 0, 16)
	for range r.below(9) {
		t = append(t, api.Fold{From: r.letter(), To: r.letter(), N: 1 + r.below(1+r.below(12))})
	}
	slices.SortFunc(t, func(a, b api.Fold) int { return int(a.From - b.From) })
	for r.below(8) > 0 && !plainMayBe(t) { // what stands in the way is mostly drawn again
		i := r.below(len(t))
		t[i].To, t[i].N = r.letter(), 1+r.below(1+r.below(5))
		if i > 0 && t[i].From <= t[i-1].From+rune(t[i-1].N)-1 {
			t = slices.Delete(t, i, i+1)
		}
	}
	return t
}

// told is all that Runes tells, up to so many runes; all of them, if that is below 0.
func told(all iter.Seq2[int, rune], most int) []at {
	var l []at
	for place, r := range all {
		if len(l) == most {
			break
		}
		l = append(l, at{place, r})
	}
	return l
}

// toldLetters is all that Letters tells, up to so many; all of them, if that is below 0.
func toldLetters(all iter.Seq2[rune, rune], most int) []two {
	var l []two
	for from, to := range all {
		if len(l) == most {
			break
		}
		l = append(l, two{from, to})
	}
	return l
}

// wantRunes asks that Runes and Count tell what is wanted.
func wantRunes(t *testing.T, b []byte, want []at) {
	t.Helper()
	if got := told(fold.Runes(b), -1); !slices.Equal(got, want) {
		t.Fatalf("Runes(%.60x) tells %.600s, not %.600s", b, fmt.Sprint(got), fmt.Sprint(want))
	}
	if n := fold.Count(b); n != len(want) {
		t.Fatalf("Count(%.60x) is %d, not %d", b, n, len(want))
	}
}

// wantErr asks for an answer of Check's.
func wantErr(t *testing.T, what string, table []api.Fold, want api.Errno) {
	t.Helper()
	if got := fold.Check(table); got != want {
		t.Fatalf("%s: Check(%v) answers %d, not %d", what, table, int(got), int(want))
	}
}

// wantFolds holds all that is asked by a table against the words, of some runes and bytes.
func wantFolds(t *testing.T, table []api.Fold, runes []rune, b []byte) {
	t.Helper()
	want := api.OK
	if !plainMayBe(table) {
		want = api.ErrFold
	}
	wantErr(t, "held against the words", table, want)
	for _, r := range runes {
		if got := fold.Rune(table, r); got != plainRune(table, r) {
			t.Fatalf("Rune(%v, %#x) is %#x, not %#x", table, r, got, plainRune(table, r))
		}
	}
	if got := toldLetters(fold.Letters(table), -1); !slices.Equal(got, plainLetters(table)) {
		t.Fatalf("Letters(%v) tells %x, not %x", table, got, plainLetters(table))
	}
	if got := fold.Text(table, b); got != plainText(table, b) {
		t.Fatalf("Text(%v, %x) is %x, not %x", table, b, got, plainText(table, b))
	}
}
