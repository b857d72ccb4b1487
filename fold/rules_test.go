package fold_test

import (
	"bytes"
	"fmt"
	"slices"
	"strings"
	"testing"

	"incipit/api"
	"incipit/fold"
)

// roomy is bytes with others behind them, in the same memory.
func roomy(b []byte) []byte { return append(slices.Clone(b), "behind it"...)[:len(b)] }

// roomyTable is a table with other ranges behind it, in the same memory.
func roomyTable(t []api.Fold) []api.Fold { return append(slices.Clone(t), ones(3)...)[:len(t)] }

// R3: what is handed in is not written to, nor what stands behind it.
func TestWhatIsHandedInStays(t *testing.T) {
	r := draws(12)
	for _, given := range drawnTables(&r, 60) {
		table, b := roomyTable(given), roomy(r.bytes(50))
		wasTable, was := slices.Clone(table[:len(table)+3]), bytes.Clone(b[:len(b)+9])
		told(fold.Runes(b), -1)
		fold.Count(b)
		fold.Check(table)
		fold.Rune(table, 'A')
		fold.Text(table, b)
		toldLetters(fold.Letters(table), -1)
		toldLetters(fold.Letters(table), 1)
		if !slices.Equal(table[:len(table)+3], wasTable) {
			t.Fatalf("a table was written to: %v, not %v", table[:len(table)+3], wasTable)
		}
		if !bytes.Equal(b[:len(b)+9], was) {
			t.Fatalf("bytes were written to: %x, not %x", b[:len(b)+9], was)
		}
	}
}

// R3: bytes that are handed in are not kept: their owner changes them behind the call, and amid the ranging.
func TestBytesAreNotKept(t *testing.T) {
	r := draws(13)
	for range 200 {
		b := r.bytes(50)
		want := plainRunes(b)
		all := fold.Runes(b)
		text := fold.Text(fold.Plain(), b)
		kept := plainText(fold.Plain(), b)
		n := 0
		for place, x := range all {
			if want[n] != (at{place, x}) {
				t.Fatalf("amid the changes Runes tells %d, %#x as its %d-th, not %v", place, x, n, want[n])
			}
			for i := range b {
				b[i] ^= byte(1 + n)
			}
			n++
		}
		clear(b)
		if got := told(all, -1); n != len(want) || !slices.Equal(got, want) {
			t.Fatalf("behind the changes Runes tells %v, not %v", got, want)
		}
		if text != kept {
			t.Fatalf("a text was changed: %q", text)
		}
	}
	b := []byte("Cat")
	all := fold.Runes(b)
	copy(b, "dog")
	if got := told(all, -1); got[0].r != 'C' || len(got) != 3 {
		t.Errorf("changed ahead of the ranging Runes tells %v", got)
	}
}

// R3: a table that is handed in is not kept: its owner changes it behind the call, and amid the ranging.
func TestTablesAreNotKept(t *testing.T) {
	r := draws(14)
	for range 200 {
		table := r.table()
		if !plainMayBe(table) || len(table) == 0 {
			table = fold.Plain()
		}
		want := plainLetters(table)
		all := fold.Letters(table)
		n := 0
		for from, to := range all {
			if want[n] != (two{from, to}) {
				t.Fatalf("amid the changes Letters tells %#x, %#x as its %d-th, not %x", from, to, n, want[n])
			}
			for i := range table {
				table[i] = api.Fold{From: rune(n), To: 'q', N: n - 3}
			}
			n++
		}
		if got := toldLetters(all, -1); n != len(want) || !slices.Equal(got, want) {
			t.Fatalf("behind the changes Letters tells %x, not %x", got, want)
		}
	}
	table := fold.Plain()
	all := fold.Letters(table)
	table[0] = api.Fold{}
	if n := len(toldLetters(all, -1)); n != 112 {
		t.Error("changed ahead of the ranging Letters tells", n)
	}
	wrong := []api.Fold{{From: 'A', To: 'A', N: 1}}
	all = fold.Letters(wrong)
	wrong[0].To = 'a'
	if n := len(toldLetters(all, -1)); n != 0 {
		t.Error("a table that might not be when it was handed in tells", n)
	}
}

// R3: what is answered is nobody's else: Plain is written over, and told again as it was.
func TestPlainIsNobodysElse(t *testing.T) {
	want := fold.Plain()
	for range 3 {
		p := fold.Plain()
		if !slices.Equal(p, want) {
			t.Fatalf("Plain is %v, not %v", p, want)
		}
		q := fold.Plain()
		for i := range p {
			p[i] = api.Fold{From: '0', To: '1', N: 7}
		}
		_ = append(p[:0], api.Fold{From: 1, To: 2, N: 3})
		if !slices.Equal(q, want) {
			t.Fatalf("two answers of Plain share memory: %v", q)
		}
	}
	if fold.Rune(fold.Plain(), 'A') != 'a' || fold.Check(fold.Plain()) != api.OK {
		t.Error("Plain folds something else")
	}
}

// R4: empty and nil lists are the same.
func TestEmptyAndNil(t *testing.T) {
	var tellings []string
	for _, b := range [][]byte{nil, {}, make([]byte, 0, 9), []byte("behind")[:0]} {
		for _, table := range [][]api.Fold{nil, {}, make([]api.Fold, 0, 9), fold.Plain()[:0]} {
			tellings = append(tellings, fmt.Sprint(len(told(fold.Runes(b), -1)), fold.Count(b), fold.Check(table), fold.Rune(table, 'A'), fold.Text(table, b), fold.Text(table, []byte("A\xff")), len(toldLetters(fold.Letters(table), -1))))
		}
	}
	for _, telling := range tellings {
		if telling != tellings[0] {
			t.Fatalf("empty and nil differ: %q, %q", telling, tellings[0])
		}
	}
	if fold.Text(fold.Plain(), nil) != "" || fold.Text(fold.Plain(), []byte{}) != "" {
		t.Error("Text of no bytes")
	}
}

// R6: the same calls answer the same, whatever other calls stand between them.
func TestTheSameCallsAnswerTheSame(t *testing.T) {
	all := func() string {
		r := draws(15)
		var l strings.Builder
		for range 80 {
			table, b, x := r.table(), r.bytes(30), r.rune()
			fmt.Fprint(&l, told(fold.Runes(b), -1), fold.Count(b), fold.Letter(x), fold.Width(x), fold.Check(table), fold.Rune(table, x), fold.Text(table, b), toldLetters(fold.Letters(table), -1), fold.Plain())
		}
		return l.String()
	}
	first := all()
	for range 3 {
		if all() != first {
			t.Fatal("the same calls answer something else")
		}
	}
}

// R1: iterators are there also where they tell nothing.
func TestIteratorsAreAlwaysThere(t *testing.T) {
	if fold.Runes(nil) == nil || fold.Letters(nil) == nil || fold.Letters([]api.Fold{{}}) == nil {
		t.Error("an iterator is nil, and would panic where it is called")
	}
}

// THE BOUND: long bytes, and a long table, in time; Rune by a table for each rune of a text, too.
func TestLongOnesInTime(t *testing.T) {
	for name, b := range map[string][]byte{
		"letters":      bytes.Repeat([]byte("AbcÉΣЯ9"), 1<<20),
		"no forms":     bytes.Repeat([]byte{0xFF}, 1<<23),
		"begun, left":  bytes.Repeat([]byte{0xF0, 0x9F, 0x98}, 1<<21),
		"ends alone":   bytes.Repeat([]byte{0x80}, 1<<23),
		"widest forms": bytes.Repeat([]byte("\U0010FFFF"), 1<<21),
	} {
		n := fold.Count(b)
		text := fold.Text(fold.Plain(), b)
		if m := fold.Count([]byte(text)); m != n {
			t.Errorf("%s: %d runes, folded %d", name, n, m)
		}
		if name == "no forms" && len(text) != 3*len(b) {
			t.Errorf("%s: the text has %d bytes", name, len(text))
		}
	}
	table, plain := make([]api.Fold, 1<<20), fold.Plain()
	for i := range table {
		table[i] = plain[0]
	}
	for range 100 {
		wantQuickly(t, table)
	}
	for i := range 1 << 21 {
		if r := rune(i % 0x500); fold.Rune(plain, r) < r && r < 0x370 {
			t.Fatal(r)
		}
	}
}

// wantQuickly asks a table of too many ranges.
func wantQuickly(t *testing.T, table []api.Fold) {
	t.Helper()
	if fold.Check(table) != api.ErrFold || fold.Rune(table, 'A') != 'A' || fold.Text(table, []byte("A")) != "A" {
		t.Fatal("a table of too many ranges")
	}
	for range fold.Letters(table) {
		t.Fatal("a table of too many ranges tells a letter")
	}
}
