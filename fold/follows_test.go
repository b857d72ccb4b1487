package fold_test

import (
	"maps"
	"slices"
	"testing"

	"incipit/api"
	"incipit/fold"
)

// drawnTables are Plain, nil, tables that may not be, and drawn ones.
func drawnTables(r *draws, n int) [][]api.Fold {
	l := [][]api.Fold{fold.Plain(), nil}
	bad := badTables()
	for _, why := range slices.Sorted(maps.Keys(bad)) {
		l = append(l, bad[why])
	}
	for range n {
		l = append(l, r.table())
	}
	return l
}

// P13.3: what was folded is not changed by folding it again, rune by rune; letters are folded to letters, and nothing else to one.
func TestFoldedOnce(t *testing.T) {
	r := draws(7)
	for _, table := range drawnTables(&r, 200) {
		runes := edgeRunes()
		for x := rune(0); x < 0x520; x++ {
			runes = append(runes, x)
		}
		for _, x := range runes {
			once := fold.Rune(table, x)
			if twice := fold.Rune(table, once); twice != once {
				t.Fatalf("by %v %#x is folded to %#x, and this to %#x", table, x, once, twice)
			}
			if fold.Letter(x) != fold.Letter(once) || !fold.Letter(x) && once != x {
				t.Fatalf("by %v %#x is folded to %#x", table, x, once)
			}
		}
	}
}

// P13.3: texts that were folded are not changed by folding them again, and have as many runes, and as many letters at the same ones.
func TestTextsFoldedOnce(t *testing.T) {
	r := draws(8)
	for _, table := range drawnTables(&r, 300) {
		b := r.bytes(100)
		once := fold.Text(table, b)
		if twice := fold.Text(table, []byte(once)); twice != once {
			t.Fatalf("by %v %x is folded to %x, and this to %x", table, b, once, twice)
		}
		if fold.Count([]byte(once)) != fold.Count(b) {
			t.Fatalf("%x has other runes than %x", once, b)
		}
		was, is := told(fold.Runes(b), -1), told(fold.Runes([]byte(once)), -1)
		for i := range was {
			if fold.Rune(table, was[i].r) != is[i].r || fold.Letter(was[i].r) != fold.Letter(is[i].r) {
				t.Fatalf("by %v rune %d of %x is %#x, behind folding %#x", table, i, b, was[i].r, is[i].r)
			}
		}
	}
}

// P13.3: what Letters tells is just what Rune changes.
func TestLettersAreWhatRuneChanges(t *testing.T) {
	r := draws(9)
	for _, table := range drawnTables(&r, 200) {
		var want []two
		for x := rune(-2); x < 0x600; x++ {
			if to := fold.Rune(table, x); to != x {
				want = append(want, two{x, to})
			}
		}
		if got := toldLetters(fold.Letters(table), -1); !slices.Equal(got, want) {
			t.Fatalf("Letters(%v) tells %x, not %x", table, got, want)
		}
	}
}

// behind is runes whose places are greater by n.
func behind(l []at, n int) []at {
	l = slices.Clone(l)
	for i := range l {
		l[i].place += n
	}
	return l
}

// joinsWell asks P13.4 of two pieces.
func joinsWell(t *testing.T, a, b []byte) {
	t.Helper()
	both := slices.Concat(a, b)
	want := append(told(fold.Runes(a), -1), behind(told(fold.Runes(b), -1), len(a))...)
	wantRunes(t, both, want)
	if fold.Count(both) != fold.Count(a)+fold.Count(b) {
		t.Fatalf("%x, %x: Count is %d, not %d and %d", a, b, fold.Count(both), fold.Count(a), fold.Count(b))
	}
	if got := fold.Text(fold.Plain(), both); got != fold.Text(fold.Plain(), a)+fold.Text(fold.Plain(), b) {
		t.Fatalf("%x, %x: Text is %q", a, b, got)
	}
}

// P13.4: bytes of which the others begin with no byte from 128 to 191 have first their own runes, and then those of the others.
func TestInPieces(t *testing.T) {
	r := draws(10)
	met := 0
	for range 3000 {
		all := r.bytes(40)
		for cut := range len(all) + 1 {
			if cut == len(all) || all[cut] < 128 || all[cut] > 191 {
				joinsWell(t, all[:cut], all[cut:])
				met++
			}
		}
		if b := r.bytes(20); len(b) == 0 || b[0] < 128 || b[0] > 191 {
			joinsWell(t, all, b)
			met++
		}
	}
	if met < 10000 {
		t.Error("only so many were met:", met)
	}
	joinsWell(t, nil, nil)
	for x := range 256 {
		for y := range 256 {
			if y < 128 || y > 191 {
				joinsWell(t, []byte{byte(x)}, []byte{byte(y)})
				joinsWell(t, []byte{0xE2, byte(x)}, []byte{byte(y), 0x82})
			}
		}
	}
}

func FuzzRunes(f *testing.F) {
	r := draws(11)
	for range 20 {
		f.Add(r.bytes(30))
	}
	f.Fuzz(func(t *testing.T, b []byte) {
		wantRunes(t, b, plainRunes(b))
		for i := range b {
			if b[i] < 128 || b[i] > 191 {
				joinsWell(t, b[:i], b[i:])
			}
		}
	})
}

func FuzzTable(f *testing.F) {
	f.Add(int32('A'), int32('a'), 26, int32(0xC0), int32(0xE0), 23, "ÀB\xff")
	f.Add(int32('J'), int32('A'), 3, int32('M'), int32('a'), 3, "JKLMNO")
	f.Add(int32(0x100), int32(0x400), 256, int32(0x200), int32(0x24F), 1, "Āā")
	f.Fuzz(func(t *testing.T, from, to int32, n int, from2, to2 int32, n2 int, text string) {
		one, other := api.Fold{From: from, To: to, N: n}, api.Fold{From: from2, To: to2, N: n2}
		runes := []rune{from - 1, from, from + 1, to, from2, to2, from + rune(n), from2 + rune(n2)}
		for _, table := range [][]api.Fold{{one}, {other}, {one, other}, {other, one}} {
			wantFolds(t, table, runes, []byte(text))
		}
	})
}
