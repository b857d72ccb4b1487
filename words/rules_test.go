package words_test

import (
	"bytes"
	"fmt"
	"math"
	"slices"
	"strings"
	"testing"

	"incipit/api"
	"incipit/fold"
	"incipit/words"
)

// roomy is bytes with others behind them, in the same memory.
func roomy(b []byte) []byte { return append(slices.Clone(b), "behind it"...)[:len(b)] }

// roomyConf is a way with other ranges and stop words behind its own, in the same memory.
func roomyConf(c api.Conf) api.Conf {
	c.Folds = append(slices.Clone(c.Folds), fold.Plain()[3:]...)[:len(c.Folds)]
	c.Stops = append(slices.Clone(c.Stops), "behind", "it", "z")[:len(c.Stops)]
	return c
}

// whole is a way with what stands behind its lists.
func whole(c api.Conf) api.Conf {
	return api.Conf{Folds: c.Folds[:len(c.Folds)+3], Stops: c.Stops[:len(c.Stops)+3], Cap: c.Cap}
}

// telling is all that each call answers of a way, a text and a form, in one text.
func telling(c api.Conf, text, form []byte) string {
	var l strings.Builder
	bytesOf, err := words.Bytes(c)
	fmt.Fprintf(&l, "%d %v %x %d ", words.Check(c), words.Same(c, c), bytesOf, err)
	parsed, err := words.Parse(form)
	fmt.Fprintf(&l, "%q %d %v ", fmt.Sprint(parsed), err, words.Same(c, parsed))
	fmt.Fprintf(&l, "%q %q ", fmt.Sprint(words.Tokens(c, text)), fmt.Sprint(told(words.All(c, text), -1)))
	one, err := words.One(c, text)
	fmt.Fprintf(&l, "%d %q %q %d %v", words.Count(text), words.Terms(c, text), one, err, words.Stop(c, string(text)))
	return l.String()
}

// R3: what is handed in is not written to, nor what stands behind it.
func TestWhatIsHandedInStays(t *testing.T) {
	r := draws(15)
	for range 400 {
		given := r.conf()
		c, text, form := roomyConf(given), roomy(r.text(given, 10)), roomy(r.drawnForm())
		wasConf, wasText, wasForm := cloned(whole(c)), bytes.Clone(text[:len(text)+9]), bytes.Clone(form[:len(form)+9])
		telling(c, text, form)
		told(words.All(c, text), 1)
		if !same(whole(c), wasConf) {
			t.Fatalf("a way was written to: %q, not %q", fmt.Sprint(whole(c)), fmt.Sprint(wasConf))
		}
		if !bytes.Equal(text[:len(text)+9], wasText) || !bytes.Equal(form[:len(form)+9], wasForm) {
			t.Fatal("bytes were written to")
		}
	}
}

// R3: a way and a text that are handed in are not kept: their owner changes them ahead of the ranging, amid it, and behind it.
func TestWhatIsHandedInIsNotKept(t *testing.T) {
	r := draws(16)
	for range 400 {
		given := r.way()
		c := cloned(given)
		text := r.text(c, 12)
		want := plainTokens(c, text)
		all := words.All(c, text)
		n := 0
		for x := range all {
			if x != want[n] {
				t.Fatalf("amid the changes All tells %q as its %d-th, not %q", fmt.Sprint(x), n, fmt.Sprint(want[n]))
			}
			for i := range text {
				text[i] ^= byte(1 + n)
			}
			for i := range c.Stops {
				c.Stops[i] = want[len(want)-1].Term
			}
			for i := range c.Folds {
				c.Folds[i] = api.Fold{From: rune(n), To: 'q', N: n - 3}
			}
			n++
		}
		clear(text)
		if got := told(all, -1); n != len(want) || !slices.Equal(got, want) {
			t.Fatalf("behind the changes All tells %q, not %q", fmt.Sprint(got), fmt.Sprint(want))
		}
	}
	c, text := by(4, "cat"), []byte("Cat dog CAT")
	all := words.All(c, text)
	c.Stops[0], c.Folds[0] = "dog", api.Fold{From: 'd', To: 'c', N: 1}
	copy(text, "dog")
	if got := told(all, -1); !slices.Equal(got, terms(1, "dog")) {
		t.Errorf("changed ahead of the ranging All tells %v", got)
	}
	bad := by(4, "Cat")
	all = words.All(bad, []byte("a"))
	bad.Stops[0] = "cat"
	if got := told(all, -1); got != nil {
		t.Errorf("by a way that might not be when it was handed in All tells %v", got)
	}
}

// R3: what is answered does not change with what was handed in.
func TestAnswersAreNotKeptTogether(t *testing.T) {
	r := draws(17)
	for range 300 {
		given := r.way()
		c, text := cloned(given), r.text(given, 10)
		tokens, list := words.Tokens(c, text), words.Terms(c, text)
		wantList, wantTerms := plainTokens(c, text), plainTerms(c, text)
		form := plainForm(c)
		wantParsed, _ := plainParse(form)
		parsed, _ := words.Parse(form)
		out, _ := words.Bytes(c)
		wantOut := bytes.Clone(out)
		clear(text)
		clear(form)
		clear(c.Stops)
		clear(c.Folds)
		if !slices.Equal(tokens, wantList) || !slices.Equal(list, wantTerms) || !bytes.Equal(out, wantOut) || !same(parsed, wantParsed) {
			t.Fatalf("an answer by %q was changed", fmt.Sprint(given))
		}
	}
}

// R3: what is answered is nobody's else: it is written over, also behind its end, and told again as it was.
func TestAnswersAreNobodysElse(t *testing.T) {
	r := draws(18)
	for range 300 {
		c := r.way()
		text, form := r.text(c, 10), plainForm(c)
		was := telling(c, text, form)
		tokens, list := words.Tokens(c, text), words.Terms(c, text)
		out, _ := words.Bytes(c)
		parsed, _ := words.Parse(form)
		for _, l := range [][]api.Token{tokens[:cap(tokens)]} {
			for i := range l {
				l[i] = api.Token{Term: "x", Pos: -1}
			}
		}
		for _, l := range [][]string{list[:cap(list)], parsed.Stops[:cap(parsed.Stops)]} {
			for i := range l {
				l[i] = "x"
			}
		}
		for i := range out[:cap(out)] {
			out[:cap(out)][i] ^= 255
		}
		clear(parsed.Folds[:cap(parsed.Folds)])
		if got := telling(c, text, form); got != was {
			t.Fatalf("told again: %s, not %s", got, was)
		}
	}
}

// R4: empty and nil lists are the same.
func TestEmptyAndNil(t *testing.T) {
	var tellings []string
	for _, text := range [][]byte{nil, {}, make([]byte, 0, 9), []byte("behind")[:0]} {
		for _, folds := range [][]api.Fold{nil, {}, make([]api.Fold, 0, 9), fold.Plain()[:0]} {
			for _, stops := range [][]string{nil, {}, make([]string, 0, 9), many(1)[:0]} {
				c := api.Conf{Folds: folds, Stops: stops, Cap: 3}
				tellings = append(tellings, telling(c, text, text)+telling(c, []byte("A cat a"), []byte{3, 0, 0}))
			}
		}
	}
	for _, one := range tellings {
		if one != tellings[0] {
			t.Fatalf("empty and nil differ: %q, %q", one, tellings[0])
		}
	}
}

// R2: with an error every other result is the zero value.
func TestZeroBesideAnError(t *testing.T) {
	r := draws(19)
	for range 2000 {
		c := r.conf()
		text, form := r.text(c, 3), r.drawnForm()
		if b, err := words.Bytes(c); err != api.OK && b != nil {
			t.Fatalf("beside %d stands %x", int(err), b)
		}
		if parsed, err := words.Parse(form); err != api.OK && !isZero(parsed) {
			t.Fatalf("beside %d stands %q", int(err), fmt.Sprint(parsed))
		}
		if one, err := words.One(c, text); err != api.OK && one != "" {
			t.Fatalf("beside %d stands %q", int(err), one)
		}
	}
}

// R6: the same calls answer the same, whatever other calls stand between them.
func TestTheSameCallsAnswerTheSame(t *testing.T) {
	all := func() string {
		r := draws(20)
		var l strings.Builder
		for range 150 {
			c := r.conf()
			l.WriteString(telling(c, r.text(c, 8), r.drawnForm()))
		}
		return l.String()
	}
	first := all()
	for range 3 {
		if all() != first {
			t.Fatal("the same calls answer something else")
		}
	}
}

// R1: numbers at their ends, in each field, and lists of zero values: no call panics, and none of these ways may be.
func TestNumbersAtTheirEnds(t *testing.T) {
	numbers := []int{math.MinInt, -1 << 32, math.MinInt32, -1, 0, 1, 12, 13, 255, 256, 257, math.MaxInt32, 1 << 32, math.MaxInt}
	runes := []rune{math.MinInt32, -1, 0, 'A', 0x4FF, 0xD800, 0x10FFFF, 0x110000, math.MaxInt32}
	for _, most := range numbers {
		for _, n := range numbers {
			for _, from := range runes {
				for _, to := range runes {
					c := api.Conf{Folds: []api.Fold{{From: from, To: to, N: n}}, Stops: []string{"b"}, Cap: most}
					wantForm(t, c)
					wantAll(t, c, []byte("A b"))
				}
			}
		}
		wantForm(t, api.Conf{Folds: make([]api.Fold, 9), Cap: most})
		wantForm(t, api.Conf{Stops: make([]string, 33), Cap: most})
		wantForm(t, api.Conf{Stops: make([]string, 1), Cap: most})
	}
}

// R1: an iterator is there also where it tells nothing.
func TestIteratorsAreAlwaysThere(t *testing.T) {
	if words.All(api.Conf{}, nil) == nil || words.All(by(3), nil) == nil {
		t.Error("an iterator is nil, and would panic where it is called")
	}
}

// THE BOUND: long texts, of long words and of short ones, many stop words, long ones and long forms, in time.
func TestLongOnesInTime(t *testing.T) {
	c := api.Conf{Folds: fold.Plain(), Stops: many(32), Cap: 12}
	const n = 1 << 18
	for what, x := range map[string]struct {
		part  string
		count int
	}{
		"one long word":      {"aÉ", 1},
		"words of a letter":  {"a ", n},
		"stop words":         {"W031 ", n},
		"no letters":         {"\xFF ", 0},
		"forms cut off":      {"\xF0\x9F\x98", 0},
		"words of Cap runes": {"abcdefghijkl-", n},
	} {
		text := bytes.Repeat([]byte(x.part), n)
		wantCount(t, text, x.count)
		tokens := words.Tokens(c, text)
		if what == "stop words" && len(tokens) != 0 || what != "stop words" && len(tokens) != x.count {
			t.Errorf("%s: %d tokens", what, len(tokens))
		}
		if got := len(words.Terms(c, text)); got > 1 {
			t.Errorf("%s: %d terms", what, got)
		}
		words.One(c, text)
		words.Parse(text)
		words.Stop(c, string(text))
	}
	var apart strings.Builder
	for i := range n {
		fmt.Fprintf(&apart, "%d ", i*7919%n)
	}
	if got := len(words.Terms(c, []byte(apart.String()))); got != n {
		t.Errorf("%d terms, not %d", got, n)
	}
	longStops := make([]string, 32)
	for i := range longStops {
		longStops[i] = strings.Repeat("a", 1<<18+i)
	}
	for range 20 {
		wantErr(t, "long stop words", by(12, longStops...), api.ErrConf)
		wantErr(t, "many stop words", by(12, make([]string, 1<<20)...), api.ErrConf)
		wantErr(t, "many ranges", api.Conf{Folds: make([]api.Fold, 1<<20), Cap: 3}, api.ErrConf)
	}
}
