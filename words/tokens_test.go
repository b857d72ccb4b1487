package words_test

import (
	"fmt"
	"slices"
	"strings"
	"testing"

	"incipit/api"
	"incipit/fold"
	"incipit/words"
)

// terms are terms at the places from first on, one behind the other.
func terms(first int, l ...string) []api.Token {
	var tokens []api.Token
	for i, term := range l {
		tokens = append(tokens, api.Token{Term: term, Pos: first + i})
	}
	return tokens
}

// P14.2: the chapter's example.
func TestExample(t *testing.T) {
	c := by(4, "the")
	text := []byte("The Cats, the CATS' 12")
	wantTokens(t, c, text, []api.Token{{Term: "cats", Pos: 1}, {Term: "cats", Pos: 3}, {Term: "12", Pos: 4}})
	wantCount(t, text, 5)
	if got := words.Terms(c, text); !slices.Equal(got, []string{"12", "cats"}) {
		t.Errorf("Terms is %q", got)
	}
	wantAll(t, c, text)
}

// P14.2, R4: no bytes, and texts without a word.
func TestTextsWithoutAWord(t *testing.T) {
	for _, text := range [][]byte{nil, {}, make([]byte, 0, 9), []byte("behind")[:0], []byte(" "), []byte("., -\n"), {0}, {255}, {0x80}, {0xC3}, []byte("\u00D7\u00F7\u0250\u036F\u0500"), []byte("\uFFFD"), []byte("\U0001F600 \u20AC"), []byte("\xC1\x81\xE0\x81\x81\xED\xA0\x80")} {
		for _, c := range []api.Conf{by(4, "the"), {Cap: 1}, {Folds: fold.Plain(), Cap: 12}, {}} {
			wantTokens(t, c, text, nil)
			wantCount(t, text, 0)
			want := api.ErrNone
			if c.Cap == 0 {
				want = api.ErrConf
			}
			wantOne(t, c, text, "", want)
		}
	}
}

// P14.2: one word, at the text's beginning, at its end, between others, and alone; what stands beside it.
func TestOneWord(t *testing.T) {
	gaps := []string{"", " ", "\x00", "-", "\u00D7", "\u0250", "\u20AC", "\U0001F600", "\xFF", "\x80", "\xC3", "\xE2\x82", "\xF0\x9F\x98"}
	for _, word := range []string{"a", "Z", "0", "é", "Ж", "cat", "Élan9", "ΑΒΓ"} {
		c := api.Conf{Folds: fold.Plain(), Cap: 5}
		term := strings.ToLower(word)
		for _, ahead := range gaps {
			for _, behind := range gaps {
				text := []byte(ahead + word + behind)
				wantTokens(t, c, text, terms(0, term))
				wantCount(t, text, 1)
				wantOne(t, c, text, term, api.OK)
			}
			if ahead == "" {
				continue
			}
			text := []byte(word + ahead + "x" + ahead + ahead + word)
			wantTokens(t, c, text, terms(0, term, "x", term))
			wantCount(t, text, 3)
			wantOne(t, c, text, "", api.ErrLong)
		}
	}
}

// P14.2: words of Cap runes, one less and one more, of letters of one byte, of two, and of both; what is cut off is not the next word.
func TestWordsAreCut(t *testing.T) {
	for most := 1; most <= 12; most++ {
		c := api.Conf{Folds: capitals(), Cap: most}
		for _, letters := range []string{"Abcdefghijklmnopqrstuvwxyz", "éÉàÀçÇøØñÑõÕäÄöÖüÜ", "aÉbçDøeñFõgähöiüJ", "ωαβγδεζηθικλμνξο", "яжЯЖцЦшШщЩъЪыЫ"} {
			for n := 1; n <= len([]rune(letters)); n++ {
				word := string([]rune(letters)[:n])
				term := plainTerm(c, []rune(word))
				if len([]rune(term)) != min(n, most) {
					t.Fatal("the plain term", term)
				}
				wantTokens(t, c, []byte(word), terms(0, term))
				wantTokens(t, c, []byte("x, "+word+"; y"), terms(0, "x", term, "y"))
				wantTokens(t, c, []byte(word+"\xFF"+word), terms(0, term, term))
				wantCount(t, []byte(word), 1)
				wantOne(t, c, []byte(word), term, api.OK)
			}
		}
	}
	wantTokens(t, by(1), []byte("Cat Dog"), terms(0, "c", "d"))
	wantTokens(t, by(12), []byte("abcdefghijkl abcdefghijklm"), terms(0, "abcdefghijkl", "abcdefghijkl"))
}

// P14.2: bytes that are no form between letters part words, and count for none.
func TestBytesThatAreNoForm(t *testing.T) {
	c := by(4, "the")
	for _, gap := range []string{"\xFF", "\x80", "\xC3", "\xC3\xC3", "\xE2\x82", "\xF0\x9F\x98", "\xC1\x81", "\xE0\x83\xA9", "\xED\xA0\x80", "\xF4\x90\x80\x80", "\xF8\x88\x80\x80\x80"} {
		wantTokens(t, c, []byte("A"+gap+"b"), terms(0, "a", "b"))
		wantTokens(t, c, []byte(gap+"A"+gap+"é"+gap+gap+"b"+gap), terms(0, "a", "é", "b"))
		wantCount(t, []byte(gap+"A"+gap+"é"+gap+gap+"b"+gap), 3)
		wantTokens(t, c, []byte("the"+gap+"A"+gap+"THE"+gap+"the9"), []api.Token{{Term: "a", Pos: 1}, {Term: "the9", Pos: 3}})
	}
	wantTokens(t, c, []byte("a\xC3\xA9b"), terms(0, "aéb"))
	wantTokens(t, c, []byte("a\xC3 \xA9b"), terms(0, "a", "b"))
	wantTokens(t, c, []byte("a\xC3b\xA9c"), terms(0, "a", "b", "c"))
	wantTokens(t, c, []byte("a\xE2\x82\xC3\xA9"), terms(0, "a", "é"))
}

// P14.2: stop words count for their place; a word is one by its term, folded and cut.
func TestStopWords(t *testing.T) {
	c := by(4, "and", "the", "then")
	wantTokens(t, c, []byte("the"), nil)
	wantTokens(t, c, []byte("The AND tHE the"), nil)
	wantCount(t, []byte("The AND tHE the"), 4)
	wantTokens(t, c, []byte("the a the"), terms(1, "a"))
	wantTokens(t, c, []byte("a the b"), []api.Token{{Term: "a"}, {Term: "b", Pos: 2}})
	wantTokens(t, c, []byte("th the ethe thet an ands band"), []api.Token{{Term: "th"}, {Term: "ethe", Pos: 2}, {Term: "thet", Pos: 3}, {Term: "an", Pos: 4}, {Term: "ands", Pos: 5}, {Term: "band", Pos: 6}})
	wantTokens(t, c, []byte("thence THENCE thens then"), nil)
	wantTokens(t, c, []byte("t-h-e"), terms(0, "t", "h", "e"))
	wantTokens(t, by(3, "the"), []byte("theatre thy"), terms(1, "thy"))
	wantTokens(t, by(4, "the"), []byte("theatre thy"), terms(0, "thea", "thy"))
	wantTokens(t, api.Conf{Stops: []string{"the"}, Cap: 4}, []byte("The the THE"), []api.Token{{Term: "The"}, {Term: "THE", Pos: 2}})
	wantTokens(t, api.Conf{Folds: fold.Plain(), Stops: []string{"é"}, Cap: 1}, []byte("Élan É e"), terms(2, "e"))
	full := by(4, many(32)...)
	for i, stop := range many(34) {
		want := terms(0, stop)
		if i < 32 {
			want = nil
		}
		wantTokens(t, full, []byte(strings.ToUpper(stop)), want)
	}
}

// P14.2: Terms are each once, rising byte by byte, not by their places, nor as if they were folded.
func TestTermsRise(t *testing.T) {
	for _, x := range []struct {
		c    api.Conf
		text string
		want []string
	}{
		{by(4, "the"), "b a B the c a", []string{"a", "b", "c"}},
		{by(4), "z é a 9 ω ab aa Ж 10", []string{"10", "9", "a", "aa", "ab", "z", "é", "ω", "Ж"}},
		{api.Conf{Cap: 4}, "b a B A", []string{"A", "B", "a", "b"}},
		{by(2), "abc abd ab a abe", []string{"a", "ab"}},
		{by(2, "ab"), "abc abd ab a abe", []string{"a"}},
		{by(2, "ab"), "abc abd", nil},
		{api.Conf{Folds: []api.Fold{{From: '0', To: 'x', N: 2}, {From: 'a', To: '5', N: 1}}, Cap: 3}, "a0 b 1 a z", []string{"5", "5x", "b", "y", "z"}},
	} {
		if got := words.Terms(x.c, []byte(x.text)); !slices.Equal(got, x.want) {
			t.Errorf("Terms(%q, %q) is %q, not %q", fmt.Sprint(x.c), x.text, got, x.want)
		}
		wantAll(t, x.c, []byte(x.text))
	}
}

// P14.2: each rune about what is a letter, alone and between letters, with and without a table.
func TestEachRune(t *testing.T) {
	var runes []rune
	for r := rune(0); r < 0x600; r++ {
		runes = append(runes, r)
	}
	runes = append(runes, 0x7FF, 0x800, 0xD7FF, 0xE000, 0xFFFD, 0xFFFF, 0x10000, 0x10041, 0x10FFFF)
	for _, r := range runes {
		for _, c := range []api.Conf{{Cap: 3}, {Folds: fold.Plain(), Stops: []string{"a", "é"}, Cap: 2}} {
			wantAll(t, c, []byte(string(r)))
			wantAll(t, c, []byte("x"+string(r)+"y"))
			if fold.Letter(r) {
				wantOne(t, c, []byte(string(r)), string(fold.Rune(c.Folds, r)), api.OK)
			} else {
				wantOne(t, c, []byte(string(r)), "", api.ErrNone)
				wantOne(t, c, []byte("x"+string(r)+"y"), "", api.ErrLong)
			}
		}
	}
}

// P14.2: drawn texts and ways, held against the words done by hand; ways that may not be tell nothing.
func TestDrawnTexts(t *testing.T) {
	r := draws(6)
	met := map[string]int{}
	for range 4000 {
		c := r.conf()
		text := r.text(c, 12)
		wantAll(t, c, text)
		tokens, count := len(plainTokens(c, text)), len(plainWords(text))
		switch {
		case !plainMayBe(c):
			met["may not be"]++
		case tokens < count:
			met["has stop words"]++
		case tokens > 0:
			met["has none"]++
		}
	}
	for _, what := range []string{"may not be", "has stop words", "has none"} {
		if met[what] < 300 {
			t.Error("of the texts that were drawn too few are of one sort:", met)
		}
	}
}

// badWays are ways that may not be, each for one reason alone.
func badWays() map[string]api.Conf {
	return map[string]api.Conf{
		"the zero one":      {},
		"Cap 0":             {Folds: capitals(), Stops: []string{"the"}},
		"Cap below 0":       by(-1),
		"Cap 13":            by(13, "the"),
		"Folds":             {Folds: []api.Fold{{From: 'a', To: 'a', N: 1}}, Cap: 4},
		"too many":          by(4, many(33)...),
		"not rising":        by(4, "the", "and"),
		"twice":             by(4, "the", "the"),
		"empty":             by(4, "", "the"),
		"longer than Cap":   by(3, "the", "then"),
		"no letter":         by(4, "t-e", "the"),
		"no form":           by(4, "the", "the\xFF"),
		"folded to another": by(4, "The", "the"),
	}
}

// P14.2: of a way that may not be nothing, false; how many words a text has is not asked by a way.
func TestWaysThatMayNotBe(t *testing.T) {
	for what, c := range badWays() {
		wantErr(t, what, c, api.ErrConf)
		for _, text := range []string{"", "the", "a", "A cat", "the cat the cat", "then"} {
			if l := words.Tokens(c, []byte(text)); l != nil {
				t.Errorf("%s: Tokens is %v", what, l)
			}
			for x := range words.All(c, []byte(text)) {
				t.Errorf("%s: All tells %v", what, x)
			}
			if l := words.Terms(c, []byte(text)); l != nil {
				t.Errorf("%s: Terms is %q", what, l)
			}
			wantOne(t, c, []byte(text), "", api.ErrConf)
			if words.Stop(c, text) {
				t.Errorf("%s: Stop of %q", what, text)
			}
		}
		for _, stop := range c.Stops {
			if words.Stop(c, stop) {
				t.Errorf("%s: Stop of %q", what, stop)
			}
		}
	}
}

// P14.2: One by each of its errors, the one that is named first ahead of the others; of a stop word, and of one that is cut.
func TestOne(t *testing.T) {
	c := by(4, "the")
	bad := by(4, "The")
	for _, x := range []struct {
		c    api.Conf
		text string
		want string
		err  api.Errno
	}{
		{bad, "", "", api.ErrConf}, {bad, "a", "", api.ErrConf}, {bad, "a b", "", api.ErrConf}, {api.Conf{}, "a b c", "", api.ErrConf},
		{c, "", "", api.ErrNone}, {c, " ", "", api.ErrNone}, {c, "-.\xFF\u00D7", "", api.ErrNone},
		{c, "a b", "", api.ErrLong}, {c, "a a", "", api.ErrLong}, {c, "a\xFFa", "", api.ErrLong}, {c, "the the", "", api.ErrLong}, {c, "the a", "", api.ErrLong}, {c, "a the", "", api.ErrLong}, {c, " a b c ", "", api.ErrLong}, {c, "don't", "", api.ErrLong},
		{c, "a", "a", api.OK}, {c, " A ", "a", api.OK}, {c, "the", "the", api.OK}, {c, " THE! ", "the", api.OK}, {c, "Theatres", "thea", api.OK}, {c, "CATS", "cats", api.OK}, {c, "CATSX", "cats", api.OK}, {c, "\xFFé\xFF", "é", api.OK},
		{by(3, "the"), "Theatres", "the", api.OK}, {by(1), "Theatres", "t", api.OK},
	} {
		wantOne(t, x.c, []byte(x.text), x.want, x.err)
		if got, err := plainOne(x.c, []byte(x.text)); got != x.want || err != x.err {
			t.Errorf("by hand One(%q) is %q, %d", x.text, got, int(err))
		}
	}
}

// P14.2: Stop of each stop word, of its beginnings, of what is none, of what a stop word is folded from.
func TestStop(t *testing.T) {
	r := draws(7)
	for i := range 400 {
		c := r.way()
		if i == 0 {
			c = by(4, many(32)...)
		}
		for _, stop := range c.Stops {
			if !words.Stop(c, stop) {
				t.Fatalf("Stop(%q, %q) is false", fmt.Sprint(c), stop)
			}
			for n := range stop {
				if got := words.Stop(c, stop[:n]); got != plainStop(c, stop[:n]) {
					t.Fatalf("Stop(%q, %q) is %v", fmt.Sprint(c), stop[:n], got)
				}
			}
			for _, other := range []string{stop + "a", stop + "\x00", stop + " ", " " + stop, "a" + stop, unfolded(c, stop), stop[1:]} {
				if got := words.Stop(c, other); got != plainStop(c, other) {
					t.Fatalf("Stop(%q, %q) is %v", fmt.Sprint(c), other, got)
				}
			}
		}
		for _, none := range []string{"", " ", "\xFF", "abcdefghijklm", strings.Repeat("a", 300)} {
			if words.Stop(c, none) {
				t.Fatalf("Stop(%q, %q)", fmt.Sprint(c), none)
			}
		}
	}
	c := by(3, "the")
	for term, want := range map[string]bool{"the": true, "The": false, "THE": false, "th": false, "t": false, "thea": false, "the ": false, "": false, "cat": false} {
		if words.Stop(c, term) != want {
			t.Errorf("Stop of %q is %v", term, !want)
		}
	}
	if words.Stop(by(3), "the") {
		t.Error("Stop by a way without stop words")
	}
}

// P14.2, R3: All left behind each token, and gone through again; the same as Tokens each time.
func TestAllIsLeftAndGoneThroughAgain(t *testing.T) {
	r := draws(8)
	for range 300 {
		c := r.way()
		text := r.text(c, 14)
		want := plainTokens(c, text)
		all := words.All(c, text)
		for n := range len(want) + 2 {
			if got := told(all, n); !slices.Equal(got, want[:min(n, len(want))]) {
				t.Fatalf("left behind %d tokens All tells %q", n, fmt.Sprint(got))
			}
			calls := 0
			all(func(api.Token) bool {
				calls++
				return calls < n
			})
			if calls > max(n, 1) {
				t.Fatalf("All goes on for %d tokens where it was left behind %d", calls, n)
			}
		}
		for range 2 {
			if got := told(all, -1); !slices.Equal(got, want) {
				t.Fatalf("gone through again All tells %q, not %q", fmt.Sprint(got), fmt.Sprint(want))
			}
		}
		i := 0
		for x := range all { // one within the other
			if got := told(all, i+1); x != want[i] || got[i] != x {
				t.Fatalf("within each other All tells %v and %v", x, got)
			}
			i++
		}
	}
}
