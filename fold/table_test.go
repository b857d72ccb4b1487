package fold_test

import (
	"slices"
	"testing"

	"incipit/api"
	"incipit/fold"
)

// badTables are tables that may not be, each for another reason; all of them would fold A, if they might be.
func badTables() map[string][]api.Fold {
	good := api.Fold{From: 'A', To: 'a', N: 26}
	return map[string][]api.Fold{
		"too many ranges":                    append(ones(8), api.Fold{From: 0xC0, To: 0xE0, N: 1}),
		"no runes":                           {good, {From: 0xC0, To: 0xE0, N: 0}},
		"less than no runes":                 {good, {From: 0xC0, To: 0xE0, N: -1}},
		"too many runes":                     {good, {From: 0x100, To: 0x370, N: 257}},
		"no letter is folded":                {good, {From: 0xD7, To: 0xF8, N: 1}},
		"to no letter":                       {good, {From: 0xD6, To: 0xF7, N: 1}},
		"no letter amid":                     {good, {From: 0xC0, To: 0x400, N: 31}},
		"to no letter amid":                  {good, {From: 0x400, To: 0xE0, N: 31}},
		"one range begins within the other":  {good, {From: 'Z', To: 0xE0, N: 1}},
		"the ranges fall":                    {{From: 0xC0, To: 0xE0, N: 1}, good},
		"to what the same range folds":       {{From: 'A', To: 'C', N: 3}},
		"to itself":                          {good, {From: 0xC0, To: 0xC0, N: 1}},
		"to what the range ahead folds":      {good, {From: 0xC0, To: 'Q', N: 1}},
		"to what the range behind folds":     {{From: '0', To: 'Q', N: 1}, good},
		"numbers that wrap":                  {good, {From: 1<<31 - 1, To: 1<<31 - 1, N: 200}},
		"the first is good, the last is not": append(fold.Plain(), api.Fold{From: 0x4FF, To: 0x4FF, N: 1}),
	}
}

// P13.2: Plain is the six ranges that the chapter names, in its order.
func TestPlain(t *testing.T) {
	want := []api.Fold{
		{From: 65, To: 97, N: 26},
		{From: 192, To: 224, N: 23},
		{From: 216, To: 248, N: 7},
		{From: 913, To: 945, N: 17},
		{From: 931, To: 963, N: 7},
		{From: 1040, To: 1072, N: 32},
	}
	if got := fold.Plain(); !slices.Equal(got, want) {
		t.Fatalf("Plain is %v, not %v", got, want)
	}
}

// P13.2: the chapter's example, and other runes by Plain.
func TestRuneByHand(t *testing.T) {
	p := fold.Plain()
	for from, to := range map[rune]rune{0xC9: 0xE9, 'A': 'a', 'M': 'm', 'Z': 'z', '@': '@', '[': '[', 'a': 'a', 'z': 'z', '0': '0', 0: 0, 0xBF: 0xBF, 0xC0: 0xE0, 0xD6: 0xF6, 0xD7: 0xD7, 0xD8: 0xF8, 0xDE: 0xFE, 0xDF: 0xDF, 0xE9: 0xE9, 0xF7: 0xF7, 0x100: 0x100, 0x178: 0x178,
		0x390: 0x390, 0x391: 0x3B1, 0x3A1: 0x3C1, 0x3A2: 0x3A2, 0x3A3: 0x3C3, 0x3A9: 0x3C9, 0x3AA: 0x3AA, 0x3C2: 0x3C2, 0x40F: 0x40F, 0x410: 0x430, 0x42F: 0x44F, 0x430: 0x430, 0x450: 0x450, 0xFFFD: 0xFFFD, 0xD800: 0xD800, 0x10FFFF: 0x10FFFF, 0x110000: 0x110000, 0x10000 + 'A': 0x10000 + 'A', -1: -1, -'A': -'A', -1<<31 + 'A': -1<<31 + 'A', -1 << 31: -1 << 31, 1<<31 - 1: 1<<31 - 1} {
		if got := fold.Rune(p, from); got != to {
			t.Errorf("Rune(Plain, %#x) is %#x, not %#x", from, got, to)
		}
	}
}

// P13.2: Rune at the ends of each of Plain's ranges, and beside them; by each range alone, too.
func TestRuneByEachRange(t *testing.T) {
	for i, f := range fold.Plain() {
		for _, table := range [][]api.Fold{fold.Plain(), fold.Plain()[i : i+1], fold.Plain()[i:], fold.Plain()[:i+1]} {
			last := rune(f.N - 1)
			if fold.Rune(table, f.From-1) != f.From-1 || fold.Rune(table, f.From) != f.To || fold.Rune(table, f.From+1) != f.To+1 || fold.Rune(table, f.From+last) != f.To+last || fold.Rune(table, f.From+last+1) != f.From+last+1 {
				t.Errorf("about range %d of %v", i, table)
			}
		}
	}
	if got := fold.Rune([]api.Fold{{From: 'A', To: 0x100, N: 2}, {From: 'C', To: 0x110, N: 2}}, 'C'); got != 0x110 {
		t.Errorf("right behind the range ahead: %#x", got)
	}
}

// P13.2: all runes by Plain, by nil, and by the greatest table, held against the words.
func TestRuneOfAllRunes(t *testing.T) {
	greatest := []api.Fold{{From: 0x100, To: 0x400, N: 256}}
	for name, table := range map[string][]api.Fold{"Plain": fold.Plain(), "nil": nil, "the greatest": greatest} {
		to := map[rune]rune{}
		for _, x := range plainLetters(table) {
			to[x.from] = x.to
		}
		for r := rune(-0x600); r <= 0x110100; r++ {
			want, is := to[r]
			if !is {
				want = r
			}
			if got := fold.Rune(table, r); got != want {
				t.Fatalf("Rune by %s of %#x is %#x, not %#x", name, r, got, want)
			}
		}
	}
}

// P13.2: a table that may not be folds nothing.
func TestTablesThatMayNotBe(t *testing.T) {
	b := []byte("The \xffCAT, É, ΣЯ \xed\xa0\x80 Q0")
	for why, table := range badTables() {
		wantErr(t, why, table, api.ErrFold)
		for r := rune(-0x10); r < 0x520; r++ {
			if got := fold.Rune(table, r); got != r {
				t.Errorf("%s: Rune(%#x) is %#x", why, r, got)
			}
		}
		for from, to := range fold.Letters(table) {
			t.Errorf("%s: Letters tells %#x, %#x", why, from, to)
		}
		if got, want := fold.Text(table, b), "The \ufffdCAT, É, ΣЯ \ufffd\ufffd\ufffd Q0"; got != want {
			t.Errorf("%s: Text is %q, not %q", why, got, want)
		}
	}
}

// P13.2: Text by hand, by Plain and by nil.
func TestTextByHand(t *testing.T) {
	for in, want := range map[string]string{
		"":                       "",
		"Cat":                    "cat",
		"ÀÉÖ×ØÞßΑΡΣΩАЯЁ":         "àéö×øþßαρσωаяЁ",
		"\xff":                   "\ufffd",
		"A\xc3":                  "a\ufffd",
		"\xc3\x89\x89":           "é\ufffd",
		"\xe2\x82A":              "\ufffd\ufffda",
		"\xc0\x80":               "\ufffd\ufffd",
		"\x00A\x00":              "\x00a\x00",
		"\xed\xa0\xbd\xed\xb8":   "\ufffd\ufffd\ufffd\ufffd\ufffd",
		"\U0001F600Q":            "\U0001F600q",
		"\xf4\x90\x80\x80Z":      "\ufffd\ufffd\ufffd\ufffdz",
		"\ufffdB\xef\xbf\xbd":    "\ufffdb\ufffd",
		"\xef\xbb\xbfBOM stands": "\ufeffbom stands",
	} {
		if got := fold.Text(fold.Plain(), []byte(in)); got != want {
			t.Errorf("Text(Plain, %q) is %q, not %q", in, got, want)
		}
	}
	for _, none := range [][]api.Fold{nil, {}} {
		if got := fold.Text(none, []byte("ÀQ\xff!")); got != "ÀQ\ufffd!" {
			t.Errorf("Text by the empty table is %q", got)
		}
	}
	wider := []api.Fold{{From: 'A', To: 0x100, N: 3}, {From: 0xC0, To: 'x', N: 2}}
	if got := fold.Text(wider, []byte("ABÀÁC")); got != "\u0100\u0101xy\u0102" {
		t.Errorf("Text by a table that folds to other widths is %q", got)
	}
}

// P13.2: all that is asked by drawn tables, of drawn runes and bytes, held against the words; by Plain and nil, too.
func TestTablesThatAreDrawn(t *testing.T) {
	r := draws(5)
	for i := range 600 {
		table := r.table()
		switch i % 4 {
		case 0:
			table = fold.Plain()
		case 1:
			table = fold.Plain()[:r.below(7)]
		}
		var runes []rune
		for range 12 {
			runes = append(runes, r.rune())
		}
		for _, f := range table {
			runes = append(runes, f.From-1, f.From, f.From+rune(f.N)-1, f.From+rune(f.N), f.To, f.To+rune(f.N)-1)
		}
		wantFolds(t, table, runes, r.bytes(80))
	}
}

// P13.2: Letters of Plain: 112, by rising runes.
func TestLettersOfPlain(t *testing.T) {
	got := toldLetters(fold.Letters(fold.Plain()), -1)
	if len(got) != 26+23+7+17+7+32 || got[0] != (two{'A', 'a'}) || got[25] != (two{'Z', 'z'}) || got[26] != (two{0xC0, 0xE0}) || got[111] != (two{0x42F, 0x44F}) {
		t.Fatalf("%d letters: %x", len(got), got)
	}
	for i, x := range got {
		if i > 0 && x.from <= got[i-1].from {
			t.Fatalf("%x stands behind %x", x, got[i-1])
		}
	}
}

// P13.2, R4: the empty table tells no letter; the greatest one tells 8 times as many as its ranges have.
func TestLettersOfTheLeastAndTheGreatest(t *testing.T) {
	for _, none := range [][]api.Fold{nil, {}, make([]api.Fold, 0, 9)} {
		for from, to := range fold.Letters(none) {
			t.Errorf("the empty table tells %#x, %#x", from, to)
		}
	}
	table := []api.Fold{{From: 0x100, To: 0x400, N: 256}, {From: 0x200, To: 0x400, N: 80}, {From: 0x370, To: 'a', N: 1}, {From: 0x371, To: '0', N: 1}, {From: 0x372, To: 'a', N: 26}, {From: 0x3A0, To: 'A', N: 26}, {From: 0x3C0, To: 0x400, N: 4}, {From: 0x3C4, To: 0x400, N: 60}}
	wantFolds(t, table, edgeRunes(), []byte("ĀȀͰͱ"))
	if n := len(toldLetters(fold.Letters(table), -1)); n != 256+80+1+1+26+26+4+60 {
		t.Error("the greatest table tells", n)
	}
}

// P13.2, R3: Letters is left behind each letter, and tells all of it again; one that is told to stop tells nothing any more.
func TestLettersLeftAtEachPoint(t *testing.T) {
	r := draws(6)
	for i := range 40 {
		table := fold.Plain()
		if i > 0 {
			table = r.table()
		}
		all, want := fold.Letters(table), plainLetters(table)
		for n := range len(want) + 1 {
			if got := toldLetters(all, n); !slices.Equal(got, want[:n]) {
				t.Fatalf("Letters(%v), left behind %d, tells %x", table, n, got)
			}
			if got := toldLetters(all, -1); !slices.Equal(got, want) {
				t.Fatalf("Letters(%v), again, tells %x, not %x", table, got, want)
			}
			asked := 0
			all(func(rune, rune) bool { asked++; return asked < n })
			if asked != min(max(n, 1), len(want)) {
				t.Fatalf("Letters(%v) tells %d, and was stopped at %d", table, asked, n)
			}
		}
	}
}
