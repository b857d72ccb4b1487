package words_test

import (
	"fmt"
	"iter"
	"slices"
	"strings"
	"testing"

	"incipit/api"
	"incipit/fold"
	"incipit/words"
)

// The chapter's own words, done by hand: what the package is held against. What runes and letters are, and how they are folded, is the layer's below.

// plainWords is the words of a text, each as its runes.
func plainWords(text []byte) [][]rune {
	var l [][]rune
	within := false
	for _, r := range fold.Runes(text) {
		letter := fold.Letter(r)
		if letter && !within {
			l = append(l, nil)
		}
		if letter {
			l[len(l)-1] = append(l[len(l)-1], r)
		}
		within = letter
	}
	return l
}

// plainTerm is a word's term.
func plainTerm(c api.Conf, word []rune) string {
	term := ""
	for i, r := range word {
		if i < c.Cap {
			term += string(fold.Rune(c.Folds, r))
		}
	}
	return term
}

// plainStopMayBe is whether a stop word may be, by itself.
func plainStopMayBe(c api.Conf, stop string) bool {
	n := 0
	for _, r := range fold.Runes([]byte(stop)) {
		if !fold.Letter(r) || fold.Rune(c.Folds, r) != r {
			return false
		}
		n++
	}
	return n >= 1 && n <= c.Cap
}

// plainAhead is whether a stands ahead of b, byte by byte.
func plainAhead(a, b string) bool {
	for i := 0; i < len(a) && i < len(b); i++ {
		if a[i] != b[i] {
			return a[i] < b[i]
		}
	}
	return len(a) < len(b)
}

// plainMayBe is whether a way may be.
func plainMayBe(c api.Conf) bool {
	if fold.Check(c.Folds) != api.OK || c.Cap < 1 || c.Cap > 12 || len(c.Stops) > 32 {
		return false
	}
	for i, stop := range c.Stops {
		if !plainStopMayBe(c, stop) || i > 0 && !plainAhead(c.Stops[i-1], stop) {
			return false
		}
	}
	return true
}

// plainForm is the form of a way that may be, however long it is.
func plainForm(c api.Conf) []byte {
	b := []byte{byte(c.Cap), byte(len(c.Folds))}
	for _, f := range c.Folds {
		b = append(b, byte(f.From/256), byte(f.From%256), byte(f.To/256), byte(f.To%256), byte(f.N-1))
	}
	b = append(b, byte(len(c.Stops)))
	for _, stop := range c.Stops {
		b = append(append(b, byte(len(stop))), stop...)
	}
	return b
}

// plainParse is the way whose form b is, and whose Bytes are b; false, if there is none: of more than Payload bytes there is none.
func plainParse(b []byte) (api.Conf, bool) {
	short := len(b) > 240
	next := func() int {
		if len(b) == 0 {
			short = true
			return 0
		}
		x := b[0]
		b = b[1:]
		return int(x)
	}
	c := api.Conf{Cap: next()}
	for n := next(); n > 0; n-- {
		f := api.Fold{From: rune(next()*256 + next())}
		f.To = rune(next()*256 + next())
		f.N = next() + 1
		c.Folds = append(c.Folds, f)
	}
	for n := next(); n > 0; n-- {
		var stop []byte
		for m := next(); m > 0; m-- {
			stop = append(stop, byte(next()))
		}
		c.Stops = append(c.Stops, string(stop))
	}
	if short || len(b) > 0 || !plainMayBe(c) {
		return api.Conf{}, false
	}
	return c, true
}

// plainTokens is the terms of a text that are no stop words, and which words they are of.
func plainTokens(c api.Conf, text []byte) []api.Token {
	if !plainMayBe(c) {
		return nil
	}
	var l []api.Token
	for pos, word := range plainWords(text) {
		term, stop := plainTerm(c, word), false
		for _, s := range c.Stops {
			stop = stop || s == term
		}
		if !stop {
			l = append(l, api.Token{Term: term, Pos: pos})
		}
	}
	return l
}

// plainTerms is the terms of these, rising, each once: the least one that stands behind the last one, again and again.
func plainTerms(c api.Conf, text []byte) []string {
	var l []string
	tokens := plainTokens(c, text)
	for {
		least, is := "", false
		for _, x := range tokens {
			behind := len(l) == 0 || plainAhead(l[len(l)-1], x.Term)
			if behind && (!is || plainAhead(x.Term, least)) {
				least, is = x.Term, true
			}
		}
		if !is {
			return l
		}
		l = append(l, least)
	}
}

// plainOne is the term of a text that has one word.
func plainOne(c api.Conf, text []byte) (string, api.Errno) {
	l := plainWords(text)
	switch {
	case !plainMayBe(c):
		return "", api.ErrConf
	case len(l) == 0:
		return "", api.ErrNone
	case len(l) > 1:
		return "", api.ErrLong
	}
	return plainTerm(c, l[0]), api.OK
}

// plainStop is whether a term is a stop word.
func plainStop(c api.Conf, term string) bool {
	stop := false
	for _, s := range c.Stops {
		stop = stop || s == term
	}
	return stop && plainMayBe(c)
}

// plainCheck is what Check answers.
func plainCheck(c api.Conf) api.Errno {
	if plainMayBe(c) {
		return api.OK
	}
	return api.ErrConf
}

// draws is a rule by which ways and texts are drawn, always the same of a seed.
type draws uint32

// below draws a number from 0 on, below n.
func (r *draws) below(n int) int {
	*r = *r*1664525 + 1013904223
	return int(uint32(*r)>>8) % n
}

// capitals is the table of A to Z.
func capitals() []api.Fold { return []api.Fold{{From: 'A', To: 'a', N: 26}} }

// table draws a table that may be: from one byte to one, from one to two, from two to one, digits to letters, and so on.
func (r *draws) table() []api.Fold {
	tables := [][]api.Fold{
		nil,
		{},
		capitals(),
		fold.Plain(),
		{{From: 'a', To: 'A', N: 26}},
		{{From: '0', To: 'a', N: 10}},
		{{From: 'a', To: 0x3B1, N: 17}},
		{{From: 0x3B1, To: 'a', N: 17}, {From: 0x430, To: '0', N: 10}},
		{{From: 'B', To: 'A', N: 1}, {From: 'b', To: 'a', N: 1}, {From: 0xC0, To: 'C', N: 6}, {From: 0xE0, To: 'c', N: 6}},
		{{From: 0x100, To: 0x400, N: 256}},
	}
	return tables[r.below(len(tables))]
}

// letter draws a letter, often one of a few, so that words are met again.
func (r *draws) letter() rune {
	some := []rune{'a', 'b', 'A', 'B', 'z', 'Z', '0', '9', 0xE0, 0xC0, 0x3B1, 0x391, 0x430, 0x410, 0x24F, 0x4FF, 0x100, 0xD6, 0xD8, 0xF6, 0xF8, 0x370}
	if r.below(3) > 0 {
		return some[r.below(len(some))]
	}
	for {
		if x := rune(r.below(0x500)); fold.Letter(x) {
			return x
		}
	}
}

// word draws letters, from one to most of them.
func (r *draws) word(most int) string {
	var l []rune
	for range 1 + r.below(most) {
		l = append(l, r.letter())
	}
	return string(l)
}

// gap draws what is no letter: other runes, bytes that are no form, forms that are cut off.
func (r *draws) gap() string {
	some := []string{" ", " ", " ", ", ", "\n", "-", "'", "\x00", "\u00D7", "\u00F7", "\u0250", "\u036F", "\u0500", "\u20AC", "\uFFFD", "\U0001F600", "\xFF", "\xC3", "\xCE", "\x80", "\xE2\x82", "\xF0\x9F\x98", "\xC1\x81", "\xE0\x81\x81", "\xED\xA0\x80", "\xF4\x90\x80\x80", "\u00B5", "\u00AA", "@", "[", "`", "{", "/", ":"}
	return some[r.below(len(some))]
}

// way draws a way that may be.
func (r *draws) way() api.Conf {
	c := api.Conf{Folds: r.table(), Cap: 1 + r.below(12)}
	for range r.below(1 + r.below(40)) {
		c.Stops = append(c.Stops, plainTerm(c, []rune(r.word(1+r.below(c.Cap+2)))))
	}
	slices.Sort(c.Stops)
	c.Stops = slices.Compact(c.Stops)
	c.Stops = c.Stops[:min(len(c.Stops), 32)]
	return c
}

// spoilt is a way that is changed at one place, and mostly may not be.
func (r *draws) spoilt(c api.Conf) api.Conf {
	c = cloned(c)
	at := r.below(len(c.Stops) + 1)
	switch r.below(9) {
	case 0:
		c.Cap = []int{-1, 0, 13, 256 + 1, 1<<32 + 3}[r.below(5)]
	case 1:
		c.Cap = 1 + r.below(12)
	case 2:
		c.Folds = append(c.Folds, api.Fold{From: r.letter(), To: r.letter(), N: r.below(4)})
	case 3:
		c.Stops = slices.Insert(c.Stops, at, r.word(14))
	case 4:
		c.Stops = slices.Insert(c.Stops, at, "")
	case 5:
		c.Stops = slices.Insert(c.Stops, at, r.gap()+"a")
	case 6:
		c.Stops = slices.Insert(c.Stops, at, "a"+r.gap())
	case 7:
		slices.Reverse(c.Stops)
	case 8:
		c.Folds = r.table()
	}
	return c
}

// conf draws a way, about as often one that may be as one that may not.
func (r *draws) conf() api.Conf {
	c := r.way()
	if r.below(2) == 0 {
		return r.spoilt(c)
	}
	return c
}

// text draws a text of so many words, and gaps, at most; stop words of the way among them, whole, folded from others, or with letters behind them.
func (r *draws) text(c api.Conf, most int) []byte {
	var b strings.Builder
	for range r.below(most + 1) {
		switch r.below(6) {
		case 0, 1:
			b.WriteString(r.word(4))
		case 2:
			b.WriteString(r.word(16))
		case 3:
			if len(c.Stops) > 0 {
				b.WriteString(c.Stops[r.below(len(c.Stops))])
			}
		case 4:
			if len(c.Stops) > 0 {
				b.WriteString(unfolded(c, c.Stops[r.below(len(c.Stops))]))
			}
		}
		if r.below(8) > 0 {
			b.WriteString(r.gap())
		}
	}
	return []byte(b.String())
}

// unfolded is a word that is folded to the term, if there is another one.
func unfolded(c api.Conf, term string) string {
	back := map[rune]rune{}
	for from, to := range fold.Letters(c.Folds) {
		back[to] = from
	}
	return strings.Map(func(r rune) rune {
		if from, is := back[r]; is {
			return from
		}
		return r
	}, term)
}

// cloned is the same way, that nobody else can change.
func cloned(c api.Conf) api.Conf {
	return api.Conf{Folds: slices.Clone(c.Folds), Stops: slices.Clone(c.Stops), Cap: c.Cap}
}

// same is whether two ways are the same in all fields.
func same(a, b api.Conf) bool {
	return a.Cap == b.Cap && slices.Equal(a.Folds, b.Folds) && slices.Equal(a.Stops, b.Stops)
}

// isZero is whether a way is the zero value.
func isZero(c api.Conf) bool { return c.Folds == nil && c.Stops == nil && c.Cap == 0 }

// told is what an iterator tells, up to so many tokens; all of them, if that is below 0.
func told(all iter.Seq[api.Token], most int) []api.Token {
	var l []api.Token
	for x := range all {
		if len(l) == most {
			break
		}
		l = append(l, x)
	}
	return l
}

// wantErr asks for an answer of Check's.
func wantErr(t *testing.T, what string, c api.Conf, want api.Errno) {
	t.Helper()
	if got := words.Check(c); got != want {
		t.Fatalf("%s: Check(%q) answers %d, not %d", what, fmt.Sprint(c), int(got), int(want))
	}
}

// wantTokens asks that all that takes texts apart tells what is wanted.
func wantTokens(t *testing.T, c api.Conf, text []byte, want []api.Token) {
	t.Helper()
	if got := words.Tokens(c, text); !slices.Equal(got, want) {
		t.Fatalf("Tokens(%q, %.200q) is %.400q, not %.400q", fmt.Sprint(c), text, fmt.Sprint(got), fmt.Sprint(want))
	}
	if got := told(words.All(c, text), -1); !slices.Equal(got, want) {
		t.Fatalf("All(%q, %.200q) tells %.400q, not %.400q", fmt.Sprint(c), text, fmt.Sprint(got), fmt.Sprint(want))
	}
	var terms []string
	for _, x := range want {
		terms = append(terms, x.Term)
	}
	slices.Sort(terms)
	terms = slices.Compact(terms)
	if got := words.Terms(c, text); !slices.Equal(got, terms) {
		t.Fatalf("Terms(%q, %.200q) is %.400q, not %.400q", fmt.Sprint(c), text, got, terms)
	}
}

// wantCount asks for how many words a text has.
func wantCount(t *testing.T, text []byte, want int) {
	t.Helper()
	if got := words.Count(text); got != want {
		t.Fatalf("Count(%.200q) is %d, not %d", text, got, want)
	}
}

// wantOne asks for an answer of One's.
func wantOne(t *testing.T, c api.Conf, text []byte, want string, wantErr api.Errno) {
	t.Helper()
	if got, err := words.One(c, text); got != want || err != wantErr {
		t.Fatalf("One(%q, %.200q) is %q, %d, not %q, %d", fmt.Sprint(c), text, got, int(err), want, int(wantErr))
	}
}

// wantAll holds all that is told of a text by a way against the words.
func wantAll(t *testing.T, c api.Conf, text []byte) {
	t.Helper()
	wantErr(t, "held against the words", c, plainCheck(c))
	wantTokens(t, c, text, plainTokens(c, text))
	if got, want := words.Terms(c, text), plainTerms(c, text); !slices.Equal(got, want) {
		t.Fatalf("Terms(%q, %.200q) is %.400q, not %.400q", fmt.Sprint(c), text, got, want)
	}
	wantCount(t, text, len(plainWords(text)))
	term, err := plainOne(c, text)
	wantOne(t, c, text, term, err)
	for _, x := range append(plainTokens(c, text), api.Token{Term: string(text)}) {
		if got := words.Stop(c, x.Term); got != plainStop(c, x.Term) {
			t.Fatalf("Stop(%q, %q) is %v", fmt.Sprint(c), x.Term, got)
		}
	}
}

// wantForm holds Bytes and Parse of a way against the words.
func wantForm(t *testing.T, c api.Conf) {
	t.Helper()
	b, err := words.Bytes(c)
	if !plainMayBe(c) {
		if b != nil || err != api.ErrConf {
			t.Fatalf("Bytes(%q) is %x, %d, not ErrConf", fmt.Sprint(c), b, int(err))
		}
		return
	}
	form := plainForm(c)
	if len(form) > 240 {
		if b != nil || err != api.ErrLong {
			t.Fatalf("Bytes(%q) is %x, %d, not ErrLong", fmt.Sprint(c), b, int(err))
		}
	} else if !slices.Equal(b, form) || err != api.OK {
		t.Fatalf("Bytes(%q) is %x, %d, not %x", fmt.Sprint(c), b, int(err), form)
	}
	if len(form) > 240 {
		c = api.Conf{}
	}
	wantParse(t, form, c, len(form) <= 240)
}

// wantParse asks that Parse answers a way, or that there is none.
func wantParse(t *testing.T, b []byte, want api.Conf, is bool) {
	t.Helper()
	got, err := words.Parse(b)
	switch {
	case is && (err != api.OK || !same(got, want)):
		t.Fatalf("Parse(%x) is %q, %d, not %q", b, fmt.Sprint(got), int(err), fmt.Sprint(want))
	case !is && (err != api.ErrConf || !isZero(got)):
		t.Fatalf("Parse(%x) is %q, %d, not ErrConf", b, fmt.Sprint(got), int(err))
	}
}
