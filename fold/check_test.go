package fold_test

import (
	"fmt"
	"math"
	"testing"

	"incipit/api"
	"incipit/fold"
)

// ones are as many ranges of one rune each, from A to a on.
func ones(n int) []api.Fold {
	var t []api.Fold
	for i := range n {
		t = append(t, api.Fold{From: 'A' + rune(i), To: 'a' + rune(i), N: 1})
	}
	return t
}

// P13.2, R4: the empty table may be, and so may Plain, and each of its ranges.
func TestCheckOfTheEmptyOneAndPlain(t *testing.T) {
	for _, none := range [][]api.Fold{nil, {}, make([]api.Fold, 0, 9)} {
		wantErr(t, "empty", none, api.OK)
	}
	wantErr(t, "Plain", fold.Plain(), api.OK)
	for i := range fold.Plain() {
		wantErr(t, "one of Plain's ranges", fold.Plain()[i:i+1], api.OK)
		wantErr(t, "up to one of Plain's ranges", fold.Plain()[:i], api.OK)
	}
}

// P13.2: at most MaxFolds ranges.
func TestCheckOfHowManyRanges(t *testing.T) {
	for n := range 20 {
		want := api.OK
		if n > api.MaxFolds {
			want = api.ErrFold
		}
		wantErr(t, fmt.Sprint(n, " ranges"), ones(n), want)
	}
}

// P13.2: each N is from 1 to MaxRange; 0x370 to 0x46F and 0x100 to 0x1FF are letters, and so is what stands behind them.
func TestCheckOfHowManyRunes(t *testing.T) {
	for _, n := range []int{1, 2, 26, 144, api.MaxRange - 1, api.MaxRange} {
		wantErr(t, fmt.Sprint("N ", n), []api.Fold{{From: 0x100, To: 0x370, N: n}}, api.OK)
		wantErr(t, fmt.Sprint("N ", n), []api.Fold{{From: 0x370, To: 0x100, N: n}}, api.OK)
	}
	far := []int{math.MinInt, math.MinInt + 1, -1 << 32, -1<<32 + 1, -1<<32 + 26, -1 << 31, -256, -26, -2, -1, 0, api.MaxRange + 1, 300, 1 << 16, 1<<16 + 1, 1<<31 - 1, 1 << 31, 1 << 32, 1<<32 + 1, 1<<32 + 26, 1<<40 + 1, math.MaxInt - 1, math.MaxInt}
	for _, n := range far {
		wantErr(t, "alone", []api.Fold{{From: 0x100, To: 0x370, N: n}}, api.ErrFold)
		wantErr(t, "first", []api.Fold{{From: 'A', To: 'a', N: n}, {From: 0x391, To: 0x3B1, N: 17}}, api.ErrFold)
		wantErr(t, "last", []api.Fold{{From: 'A', To: 'a', N: 26}, {From: 0x391, To: 0x3B1, N: n}}, api.ErrFold)
	}
}

// P13.2: a rune that is folded, or that is folded to, and is no letter: at a range's first, its last, and in its midst.
func TestCheckOfWhatIsNoLetter(t *testing.T) {
	rows := []struct {
		first rune
		n     int
		are   bool
	}{
		{'0', 10, true}, {'0' - 1, 2, false}, {'0' - 1, 11, false}, {'9', 2, false}, {'0', 11, false}, {'0' - 1, 12, false},
		{'0', 20, false}, {'9', 9, false}, {'0', 'Z' - '0' + 1, false}, {'0', 'z' - '0' + 1, false}, {':', 7, false},
		{'A', 26, true}, {'@', 1, false}, {'@', 2, false}, {'Z', 2, false}, {'A', 27, false}, {'A', 58, false}, {'Z', 8, false}, {'[', 6, false},
		{'a', 26, true}, {'`', 2, false}, {'z', 2, false}, {'a', 27, false}, {'a', 200, false}, {'z', 0xC0 - 'z' + 1, false},
		{0xC0, 23, true}, {0xBF, 2, false}, {0xC0, 24, false}, {0xD6, 3, false}, {0xD7, 1, false}, {0xD7, 2, false}, {0xC0, 32, false}, {0xC0, 256, false},
		{0xD8, 31, true}, {0xD8, 32, false}, {0xF6, 3, false}, {0xF7, 1, false}, {0xF7, 2, false}, {0xD8, 40, false},
		{0xF8, 256, true}, {0x24F, 1, true}, {0x24F, 2, false}, {0x250, 1, false}, {0x200, 80, true}, {0x200, 81, false}, {0x200, 256, false},
		{0x36F, 1, false}, {0x36F, 2, false}, {0x370, 256, true}, {0x400, 256, true}, {0x401, 256, false}, {0x4FF, 1, true}, {0x4FF, 2, false}, {0x500, 1, false}, {0x300, 256, false},
		{0, 1, false}, {-1, 1, false}, {-1, 256, false}, {-48, 1, false}, {0xD800, 1, false}, {0xFFFD, 1, false}, {0x10FFFF, 1, false}, {0x10FFFF, 256, false}, {0x10000 + 'A', 1, false},
	}
	for _, x := range rows {
		other := rune(0x400)
		if x.first > 0x250 {
			other = 0x100
		}
		want := api.OK
		if !x.are {
			want = api.ErrFold
		}
		wantErr(t, "folded", []api.Fold{{From: x.first, To: other, N: x.n}}, want)
		wantErr(t, "folded to", []api.Fold{{From: other, To: x.first, N: x.n}}, want)
	}
}

// P13.2: each range's From stands behind the last rune that the range ahead of it folds.
func TestCheckOfTheRangesOrder(t *testing.T) {
	for _, x := range []struct {
		from rune
		n    int
		want api.Errno
	}{
		{'E' - 1, 1, api.ErrFold}, {'E', 1, api.OK}, {'E', 5, api.OK}, {'F', 1, api.OK}, {'Z', 1, api.OK}, // behind B to D
		{'D', 1, api.ErrFold}, {'D', 2, api.ErrFold}, {'C', 1, api.ErrFold}, {'B', 1, api.ErrFold}, {'B', 3, api.ErrFold}, {'B', 9, api.ErrFold},
		{'A', 1, api.ErrFold}, {'A', 2, api.ErrFold}, {'A', 26, api.ErrFold}, {'0', 1, api.ErrFold},
	} {
		t1 := []api.Fold{{From: 'B', To: 'b', N: 3}, {From: x.from, To: 0x400, N: x.n}}
		wantErr(t, "the second of two", t1, x.want)
		wantErr(t, "the second of three", append(t1, api.Fold{From: 0xC0, To: 0xE0, N: 1}), x.want)
		wantErr(t, "the third of three", append([]api.Fold{{From: '0', To: 0x4FE, N: 1}}, t1...), x.want)
	}
	p := fold.Plain()
	for i := range len(p) - 1 {
		swapped := fold.Plain()
		swapped[i], swapped[i+1] = p[i+1], p[i]
		wantErr(t, "two of Plain's ranges, the wrong way round", swapped, api.ErrFold)
	}
}

// P13.2: two ranges may fold to the same runes; they may not begin together.
func TestCheckOfRangesThatFoldToTheSame(t *testing.T) {
	wantErr(t, "to the same", []api.Fold{{From: 'A', To: 'a', N: 3}, {From: 'D', To: 'a', N: 3}, {From: 0xC0, To: 'b', N: 2}}, api.OK)
	wantErr(t, "twice", []api.Fold{{From: 'A', To: 'a', N: 3}, {From: 'A', To: 'a', N: 3}}, api.ErrFold)
	wantErr(t, "to lower and higher ones", []api.Fold{{From: 'A', To: '0', N: 10}, {From: 0x100, To: 'a', N: 26}, {From: 0x200, To: 0x400, N: 5}}, api.OK)
}

// P13.2: no rune that one is folded to is folded: by the same range, by one ahead, or by one behind it.
func TestCheckOfWhatIsFoldedTwice(t *testing.T) {
	for to := rune('A') - 1; to <= 'Z'; to++ {
		want := api.ErrFold // J to L: A to C, up to G to I, and M to O on, are free of it
		if to >= 'A' && to <= 'G' || to >= 'M' && to <= 'X' {
			want = api.OK
		}
		wantErr(t, "by the same range", []api.Fold{{From: 'J', To: to, N: 3}}, want)
		wantErr(t, "by the one ahead of it", []api.Fold{{From: 'J', To: 'a', N: 3}, {From: 0x400, To: to, N: 3}}, want)
		wantErr(t, "by the one behind it", []api.Fold{{From: '0', To: to, N: 3}, {From: 'J', To: 'a', N: 3}}, want)
		wantErr(t, "by one further ahead", []api.Fold{{From: 'J', To: 'a', N: 3}, {From: 0xC0, To: 'a', N: 3}, {From: 0x400, To: to, N: 3}}, want)
		wantErr(t, "by one further behind", []api.Fold{{From: '0', To: to, N: 3}, {From: '5', To: 'a', N: 3}, {From: 'J', To: 'a', N: 3}}, want)
	}
	wantErr(t, "to itself", []api.Fold{{From: 'A', To: 'A', N: 1}}, api.ErrFold)
	wantErr(t, "of each other", []api.Fold{{From: 'A', To: 'a', N: 26}, {From: 'a', To: 'A', N: 26}}, api.ErrFold)
	wantErr(t, "a short range within a long one", []api.Fold{{From: '5', To: 0x120, N: 1}, {From: 0x100, To: 0x400, N: 100}}, api.ErrFold)
	wantErr(t, "a long range about a short one", []api.Fold{{From: 0x120, To: 'a', N: 1}, {From: 0x400, To: 0x100, N: 100}}, api.ErrFold)
}

// P13.2, R1: numbers so great that a sum of them would wrap.
func TestCheckOfNumbersThatWrap(t *testing.T) {
	runes := []rune{math.MinInt32, math.MinInt32 + 1, math.MinInt32 + 48, math.MinInt32 + 'A', -1, 0, 'A', 0x100, 0x4FF, math.MaxInt32 - 255, math.MaxInt32 - 254, math.MaxInt32 - 1, math.MaxInt32}
	numbers := []int{math.MinInt, math.MinInt + 1, math.MinInt + 'A', -1 << 32, -1<<32 + 1, -1 << 31, -'A', -1, 0, 2, 49, 113, 256, 257, 1 << 31, 1<<31 + 26, 1<<32 - 'A', 1 << 32, 1<<32 + 2, math.MaxInt - 'A', math.MaxInt - 1, math.MaxInt}
	for _, from := range runes {
		for _, to := range runes {
			for _, n := range numbers {
				one := api.Fold{From: from, To: to, N: n}
				good := []api.Fold{{From: '1', To: 'b', N: 2}, {From: 0x3C0, To: 'b', N: 2}}
				for _, table := range [][]api.Fold{{one}, {good[0], one}, {one, good[1]}, {good[0], one, good[1]}, {one, one}} {
					wantFolds(t, table, []rune{from, to, from + 1, 'A', '1', 0x3C1}, []byte("A1b"))
				}
			}
		}
	}
}

// P13.2: drawn tables, held against the words; among them many that may be, and many that may not.
func TestCheckOfDrawnTables(t *testing.T) {
	r := draws(4)
	met := map[api.Errno]int{}
	for range 4000 {
		table := r.table()
		want := api.OK
		if !plainMayBe(table) {
			want = api.ErrFold
		}
		wantErr(t, "drawn", table, want)
		met[want]++
	}
	if met[api.OK] < 500 || met[api.ErrFold] < 500 {
		t.Error("of the tables that were drawn too few are of one sort:", met)
	}
}

// P13.2: each table of one range whose ends are such at which something changes, held against the words.
func TestCheckOfEachRangeAboutTheEnds(t *testing.T) {
	for _, from := range edgeRunes() {
		for _, to := range []rune{'0', 'a', 0xC0, 0xD6, 0xD7, 0x370, 0x4FF, from, from + 1, from - 1} {
			for _, n := range []int{1, 2, 7, 26} {
				table := []api.Fold{{From: from, To: to, N: n}}
				want := api.OK
				if !plainMayBe(table) {
					want = api.ErrFold
				}
				wantErr(t, "held against the words", table, want)
			}
		}
	}
}
