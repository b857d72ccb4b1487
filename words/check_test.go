package words_test

import (
	"fmt"
	"math"
	"slices"
	"strings"
	"testing"

	"incipit/api"
	"incipit/fold"
	"incipit/words"
)

// by is a way with the table of A to Z.
func by(most int, stops ...string) api.Conf {
	return api.Conf{Folds: capitals(), Stops: stops, Cap: most}
}

// many are n stop words of four letters, rising.
func many(n int) []string {
	var l []string
	for i := range n {
		l = append(l, fmt.Sprintf("w%03d", i))
	}
	return l
}

// P14.1, R4: ways that may be.
func TestCheckOfWaysThatMayBe(t *testing.T) {
	for what, c := range map[string]api.Conf{
		"no table, no stop words":   {Cap: 1},
		"empty lists":               {Folds: []api.Fold{}, Stops: []string{}, Cap: 12},
		"Plain":                     {Folds: fold.Plain(), Cap: 5},
		"capitals, unfolded":        {Stops: []string{"A", "AND", "The", "the"}, Cap: 3},
		"letters of all sorts":      {Folds: fold.Plain(), Stops: []string{"0", "12", "ß", "é", "ά", "ω", "я"}, Cap: 2},
		"the example's":             by(4, "the"),
		"one begins with the other": by(4, "a", "aa", "aaa", "aaaa", "aaab", "aab", "ab", "b"),
		"all letters' ends":         {Stops: []string{"09", "AZ", "az", "ÀÖ", "Øö", "øɏ", "Ͱӿ"}, Cap: 2},
	} {
		wantErr(t, what, c, api.OK)
	}
}

// P14.1: Folds that fold.Check does not take, alone, beside stop words, and at each Cap; the error is this chapter's.
func TestCheckOfFolds(t *testing.T) {
	long := []api.Fold{}
	for i := range rune(api.MaxFolds + 1) {
		long = append(long, api.Fold{From: 'A' + 2*i, To: 'a' + 2*i, N: 1})
	}
	for what, folds := range map[string][]api.Fold{
		"one range too many":       long,
		"of no runes":              {{From: 'A', To: 'a', N: 0}},
		"of fewer than none":       {{From: 'A', To: 'a', N: -1}},
		"of too many runes":        {{From: 0x100, To: 0x370, N: 257}},
		"what is folded no letter": {{From: '@', To: 'a', N: 2}},
		"to what is no letter":     {{From: 'A', To: 'b', N: 26}},
		"to itself":                {{From: 'a', To: 'a', N: 1}},
		"folded twice":             {{From: 'A', To: 'a', N: 1}, {From: 'a', To: 'b', N: 1}},
		"the wrong way round":      {{From: 'C', To: 'c', N: 1}, {From: 'B', To: 'b', N: 1}},
		"one rune twice":           {{From: 'B', To: 'b', N: 2}, {From: 'C', To: 'c', N: 1}},
		"a number that wraps":      {{From: 'A', To: 'a', N: 1<<32 + 26}},
		"a rune below 0":           {{From: -1, To: 'a', N: 1}},
		"a rune above two bytes":   {{From: 0x10000 + 'A', To: 'a', N: 1}},
		"to one above two bytes":   {{From: 'A', To: 0x10000 + 'a', N: 1}},
		"the zero range":           {{}},
	} {
		for most := 1; most <= api.MaxCap; most++ {
			wantErr(t, what, api.Conf{Folds: folds, Cap: most}, api.ErrConf)
			wantErr(t, what, api.Conf{Folds: folds, Stops: []string{"x", "y"}, Cap: most}, api.ErrConf)
		}
	}
	wantErr(t, "as many ranges as may be", api.Conf{Folds: long[:api.MaxFolds], Cap: 3}, api.OK)
	wantErr(t, "as many runes as may be", api.Conf{Folds: []api.Fold{{From: 0x100, To: 0x370, N: 256}}, Cap: 3}, api.OK)
}

// P14.1: Cap from 1 to MaxCap.
func TestCheckOfCap(t *testing.T) {
	for most := -300; most <= 600; most++ {
		want := api.ErrConf
		if most >= 1 && most <= 12 {
			want = api.OK
		}
		wantErr(t, "Cap", api.Conf{Cap: most}, want)
		wantErr(t, "Cap", by(most, "a", "b"), want)
	}
	for _, most := range []int{math.MinInt, math.MinInt + 1, -1 << 32, -1<<32 + 1, 1 << 16, 1<<16 + 1, 1<<31 - 1, 1 << 32, 1<<32 + 1, 1<<32 + 12, math.MaxInt - 1, math.MaxInt} {
		wantErr(t, "Cap", api.Conf{Cap: most}, api.ErrConf)
		wantErr(t, "Cap", by(most, "a", "b"), api.ErrConf)
	}
	if api.MaxCap != 12 || api.MaxStops != 32 {
		t.Error("limits")
	}
}

// P14.1: at most MaxStops stop words.
func TestCheckOfHowManyStops(t *testing.T) {
	for n := range 70 {
		want := api.OK
		if n > 32 {
			want = api.ErrConf
		}
		wantErr(t, fmt.Sprint(n, " stop words"), by(4, many(n)...), want)
		wantErr(t, fmt.Sprint(n, " stop words"), api.Conf{Stops: many(n), Cap: 12}, want)
	}
	wantErr(t, "256 and one", by(4, many(257)...), api.ErrConf)
	wantErr(t, "as many as there may be, and one of them once more", by(4, append(many(32), "w031")...), api.ErrConf)
}

// P14.1: stop words that do not rise, and ones that stand there twice, at each place.
func TestCheckOfTheStopsOrder(t *testing.T) {
	for n := 2; n <= 32; n++ {
		for i := range n - 1 {
			swapped, twice := many(n), many(n)
			swapped[i], swapped[i+1] = swapped[i+1], swapped[i]
			twice[i+1] = twice[i]
			wantErr(t, "two the wrong way round", by(4, swapped...), api.ErrConf)
			wantErr(t, "one twice", by(4, twice...), api.ErrConf)
		}
		if far := many(n); n > 2 {
			far[0], far[n-1] = far[n-1], far[0]
			wantErr(t, "the first and the last one", by(4, far...), api.ErrConf)
			wantErr(t, "one again, further behind", by(4, append(many(n-1), "w000")...), api.ErrConf)
		}
	}
	for _, x := range []struct {
		a, b string
		want api.Errno
	}{
		{"a", "b", api.OK}, {"b", "a", api.ErrConf}, {"a", "a", api.ErrConf},
		{"a", "aa", api.OK}, {"aa", "a", api.ErrConf}, {"ab", "b", api.OK}, {"b", "ab", api.ErrConf},
		{"9", "a", api.OK}, {"a", "9", api.ErrConf}, {"10", "9", api.OK}, {"9", "10", api.ErrConf},
		{"z", "é", api.OK}, {"é", "z", api.ErrConf}, {"zz", "é", api.OK}, {"ÿ", "ā", api.OK}, {"ā", "ÿ", api.ErrConf}, {"ɏ", "ͱ", api.OK}, {"я", "ά", api.ErrConf},
	} {
		wantErr(t, "two stop words", by(4, x.a, x.b), x.want)
		wantErr(t, "behind others", by(4, "0", x.a, x.b), x.want)
		wantErr(t, "ahead of others", by(4, x.a, x.b, "ӿ"), x.want)
	}
}

// P14.1: stop words rise byte by byte as they stand: how they would be folded, or what they are folded from, is not asked.
func TestCheckOfTheOrderAsTheyStand(t *testing.T) {
	wantErr(t, "B, a without a table", api.Conf{Stops: []string{"B", "a"}, Cap: 1}, api.OK)
	wantErr(t, "a, B without a table", api.Conf{Stops: []string{"a", "B"}, Cap: 1}, api.ErrConf)
	wantErr(t, "B, a by a table of A to Z", by(1, "B", "a"), api.ErrConf)
	wantErr(t, "a, B by a table of A to Z", by(1, "a", "B"), api.ErrConf)
	to := api.Conf{Folds: []api.Fold{{From: 'b', To: 'B', N: 1}}, Stops: []string{"B", "a"}, Cap: 1}
	wantErr(t, "B, which b is folded to, ahead of a", to, api.OK)
	slices.Reverse(to.Stops)
	wantErr(t, "a ahead of B, which b is folded to", to, api.ErrConf)
	low := api.Conf{Folds: []api.Fold{{From: 'a', To: 0x400, N: 26}, {From: 0x430, To: '0', N: 10}}, Stops: []string{"0", "A", "Z", "à", "Ѐ"}, Cap: 1}
	wantErr(t, "each is folded from another order", low, api.OK)
	wantErr(t, "capitals of two bytes behind small ones of one", api.Conf{Stops: []string{"Z", "z", "É", "é"}, Cap: 1}, api.OK)
	wantErr(t, "as if they were folded", api.Conf{Stops: []string{"É", "Z"}, Cap: 1}, api.ErrConf)
}

// P14.1: a stop word of no runes, of Cap runes and of one more; of letters of one byte, of two, and of both.
func TestCheckOfTheStopsLength(t *testing.T) {
	wide := []rune("aéb0яцω1ɏӿz9å")
	for most := 1; most <= 12; most++ {
		for n := range 30 {
			want := api.OK
			if n < 1 || n > most {
				want = api.ErrConf
			}
			wantErr(t, "of one byte", by(most, strings.Repeat("b", n)), want)
			wantErr(t, "of two bytes", by(most, strings.Repeat("é", n)), want)
			wantErr(t, "behind another", by(most, "a", strings.Repeat("c", n)), want)
			wantErr(t, "ahead of another", by(most, strings.Repeat("c", n), "z"), want)
			if n <= len(wide) {
				wantErr(t, "of both", by(most, string(wide[:n])), want)
			}
		}
		wantErr(t, "an empty one ahead", by(most, "", "a"), api.ErrConf)
		wantErr(t, "an empty one behind", by(most, "a", ""), api.ErrConf)
		wantErr(t, "an empty one between", by(most, "a", "", "b"), api.ErrConf)
	}
	wantErr(t, "a very long one", by(12, strings.Repeat("a", 1<<20)), api.ErrConf)
	wantErr(t, "257 letters", by(1, strings.Repeat("a", 257)), api.ErrConf)
}

// P14.1: a stop word with what is no letter, or no form, at its first, in its midst and at its last, and alone.
func TestCheckOfWhatIsNoLetter(t *testing.T) {
	gaps := []string{" ", "-", "\x00", "\n", "/", ":", "@", "[", "`", "{", "\x7F", "\u0080", "\u00AA", "\u00B5", "\u00BF", "\u00D7", "\u00F7", "\u0250", "\u036F", "\u0500", "\u0531", "\u20AC", "\u3042", "\uFFFD", "\uFFFF", "\U00010041", "\U0010FFFF",
		"\xFF", "\xFE", "\x80", "\xBF", "\xC3", "\xCE", "\xE2\x82", "\xF0\x9F\x98", "\xC0\x80", "\xC1\xA1", "\xE0\x83\xA9", "\xED\xA0\x80", "\xF4\x90\x80\x80", "\xF8"}
	for _, gap := range gaps {
		for _, word := range []string{gap, gap + "a", "a" + gap + "b", "ab" + gap, gap + gap, "é" + gap, gap + "é", "é" + gap + "é", "a" + gap + "é", "ab" + gap + "c"} {
			wantErr(t, "no letter", by(12, word), api.ErrConf)
			wantErr(t, "no letter, without a table", api.Conf{Stops: []string{word}, Cap: 12}, api.ErrConf)
			wantErr(t, "no letter, behind one that may be", by(12, "0", word), api.ErrConf)
		}
		wantErr(t, "behind Cap runes", by(2, "ab"+gap), api.ErrConf)
		wantErr(t, "behind one more", by(2, "abc"+gap), api.ErrConf)
	}
}

// P14.1: a stop word with a rune that is folded to another one, at its first, in its midst, at its last, and alone.
func TestCheckOfWhatIsFolded(t *testing.T) {
	for _, x := range []struct {
		folds        []api.Fold
		folded, kept string
	}{
		{capitals(), "AMZ", "amz09éÉ"},
		{fold.Plain(), "AZÀÖØÞΑΡΣΩАЯ", "azàöøþαρσωая09ßÿĀ"},
		{[]api.Fold{{From: 'a', To: 'A', N: 26}}, "amz", "AMZ09"},
		{[]api.Fold{{From: '0', To: 'a', N: 10}}, "059", "ajkAZ"},
		{[]api.Fold{{From: 'x', To: 'y', N: 1}}, "x", "wyz"},
	} {
		for _, r := range x.folded {
			for _, word := range []string{string(r), string(r) + "k", "k" + string(r), "k" + string(r) + "k"} {
				word = strings.ReplaceAll(word, "k", string([]rune(x.kept)[0]))
				wantErr(t, "folded", api.Conf{Folds: x.folds, Stops: []string{word}, Cap: 3}, api.ErrConf)
				wantErr(t, "without the table", api.Conf{Stops: []string{word}, Cap: 3}, api.OK)
			}
		}
		for _, r := range x.kept {
			wantErr(t, "folded to itself", api.Conf{Folds: x.folds, Stops: []string{string(r)}, Cap: 1}, api.OK)
		}
	}
	wantErr(t, "behind Cap runes", by(2, "abC"), api.ErrConf)
}

// P14.1: which of the stop words may not be makes no difference: a bad one at each place among others.
func TestCheckOfEachStop(t *testing.T) {
	for _, n := range []int{1, 2, 3, 31, 32} {
		for i := range n {
			for _, tail := range []string{"X", "-", "\xFF", "aaaaaaaa"} {
				c := by(5, many(n)...)
				c.Stops[i] += tail
				wantErr(t, "a bad one", c, api.ErrConf)
			}
			c := by(5, many(n)...)
			c.Stops[i] += "a"
			wantErr(t, "a good one", c, api.OK)
		}
	}
}

// P14.1: drawn ways, held against the words; among them many that may be, and many that may not.
func TestCheckOfDrawnWays(t *testing.T) {
	r := draws(1)
	met := map[api.Errno]int{}
	for range 6000 {
		c := r.conf()
		want := plainCheck(c)
		wantErr(t, "drawn", c, want)
		wantErr(t, "drawn so that it may be", r.way(), api.OK)
		met[want]++
	}
	if met[api.OK] < 2000 || met[api.ErrConf] < 1500 {
		t.Error("of the ways that were drawn too few are of one sort:", met)
	}
}

// differing are ways that differ from by(5, "and", "the") and Plain in one place each.
func differing() map[string]api.Conf {
	l := map[string]api.Conf{}
	with := func(what string, change func(*api.Conf)) {
		c := api.Conf{Folds: fold.Plain(), Stops: []string{"and", "the"}, Cap: 5}
		change(&c)
		l[what] = c
	}
	with("Cap", func(c *api.Conf) { c.Cap = 6 })
	with("Cap, by a number of 32 bits", func(c *api.Conf) { c.Cap += 1 << 32 })
	with("no table", func(c *api.Conf) { c.Folds = nil })
	with("a range less", func(c *api.Conf) { c.Folds = c.Folds[:5] })
	with("another range less", func(c *api.Conf) { c.Folds = c.Folds[1:] })
	with("a range more", func(c *api.Conf) { c.Folds = append(c.Folds, api.Fold{From: 0x4FE, To: 0x4FF, N: 1}) })
	with("the zero range more", func(c *api.Conf) { c.Folds = append(c.Folds, api.Fold{}) })
	with("two ranges the other way round", func(c *api.Conf) { c.Folds[0], c.Folds[1] = c.Folds[1], c.Folds[0] })
	for i := range fold.Plain() {
		with(fmt.Sprint("From ", i), func(c *api.Conf) { c.Folds[i].From++ })
		with(fmt.Sprint("To ", i), func(c *api.Conf) { c.Folds[i].To++ })
		with(fmt.Sprint("N ", i), func(c *api.Conf) { c.Folds[i].N-- })
		with(fmt.Sprint("N, by a number of 32 bits, ", i), func(c *api.Conf) { c.Folds[i].N += 1 << 32 })
	}
	with("no stop words", func(c *api.Conf) { c.Stops = nil })
	with("a stop word less", func(c *api.Conf) { c.Stops = c.Stops[:1] })
	with("the other stop word less", func(c *api.Conf) { c.Stops = c.Stops[1:] })
	with("a stop word more", func(c *api.Conf) { c.Stops = append(c.Stops, "to") })
	with("an empty one more", func(c *api.Conf) { c.Stops = append(c.Stops, "") })
	with("the first stop word", func(c *api.Conf) { c.Stops[0] = "any" })
	with("the second stop word", func(c *api.Conf) { c.Stops[1] = "then" })
	with("a shorter stop word", func(c *api.Conf) { c.Stops[1] = "th" })
	with("a capital", func(c *api.Conf) { c.Stops[1] = "The" })
	with("the other way round", func(c *api.Conf) { slices.Reverse(c.Stops) })
	with("both in one", func(c *api.Conf) { c.Stops = []string{"andthe"} })
	return l
}

// P14.1, R4: Same of ways that are the same, and of ways that differ in one place alone; ones that may not be, too.
func TestSame(t *testing.T) {
	one := api.Conf{Folds: fold.Plain(), Stops: []string{"and", "the"}, Cap: 5}
	all := differing()
	all["none"] = one
	for what, a := range all {
		for other, b := range all {
			if got := words.Same(a, cloned(b)); got != (what == other) {
				t.Errorf("Same of %s and %s is %v", what, other, got)
			}
		}
	}
	empty := []api.Conf{{}, {Folds: []api.Fold{}}, {Stops: []string{}}, {Folds: fold.Plain()[:0], Stops: one.Stops[:0]}}
	for _, a := range empty {
		for _, b := range empty {
			for _, most := range []int{0, 3, -1} {
				a.Cap, b.Cap = most, most
				if !words.Same(a, b) {
					t.Errorf("Same of %#v and %#v", a, b)
				}
				if b.Cap++; words.Same(a, b) {
					t.Errorf("Same of %#v and %#v", a, b)
				}
			}
		}
		if words.Same(a, one) || words.Same(one, a) {
			t.Error("Same of an empty one and another")
		}
	}
	roomy := api.Conf{Folds: append(fold.Plain(), fold.Plain()...)[:6], Stops: append(one.Stops, "x")[:2], Cap: 5}
	if !words.Same(roomy, one) {
		t.Error("what stands behind the lists makes a difference")
	}
}

// P14.1: Same of drawn ways, held against the words.
func TestSameOfDrawnWays(t *testing.T) {
	r := draws(2)
	for range 2000 {
		a := r.conf()
		b := r.spoilt(a)
		if words.Same(a, b) != same(a, b) || words.Same(b, a) != same(a, b) || !words.Same(a, cloned(a)) || !words.Same(b, cloned(b)) {
			t.Fatalf("Same of %q and %q", fmt.Sprint(a), fmt.Sprint(b))
		}
	}
}
