package words_test

import (
	"fmt"
	"slices"
	"strings"
	"testing"

	"incipit/api"
	"incipit/fold"
	"incipit/words"
)

// thereAndBack asks P14.3 of a way. It answers whether the way has bytes.
func thereAndBack(t *testing.T, c api.Conf) bool {
	t.Helper()
	b, err := words.Bytes(c)
	if err != api.OK {
		return false
	}
	back, err := words.Parse(b)
	if err != api.OK || !words.Same(back, c) || !same(back, c) {
		t.Fatalf("Parse of Bytes(%q) is %q, %d", fmt.Sprint(c), fmt.Sprint(back), int(err))
	}
	if again, err := words.Bytes(back); err != api.OK || !slices.Equal(again, b) {
		t.Fatalf("Bytes of Parse(%x) is %x, %d", b, again, int(err))
	}
	return true
}

// P14.3: Parse of Bytes is the way, Bytes of Parse the bytes; ways that are not the same have other bytes.
func TestThereAndBack(t *testing.T) {
	r := draws(9)
	met := 0
	for range 3000 {
		c := r.conf()
		if thereAndBack(t, c) {
			met++
		}
		d := r.spoilt(c)
		one, err := words.Bytes(c)
		other, otherErr := words.Bytes(d)
		if err == api.OK && otherErr == api.OK && slices.Equal(one, other) != words.Same(c, d) {
			t.Fatalf("%q and %q have the bytes %x and %x", fmt.Sprint(c), fmt.Sprint(d), one, other)
		}
	}
	if met < 1000 {
		t.Error("only so many have bytes:", met)
	}
}

// P14.3: bytes that are parsed are told again.
func TestBackAndThere(t *testing.T) {
	r := draws(10)
	met := 0
	for range 6000 {
		b := r.drawnForm()
		c, err := words.Parse(b)
		if err != api.OK {
			continue
		}
		met++
		if again, err := words.Bytes(c); err != api.OK || !slices.Equal(again, b) {
			t.Fatalf("Bytes of Parse(%x) is %x, %d", b, again, int(err))
		}
		wantErr(t, "what was parsed", c, api.OK)
	}
	if met < 1000 {
		t.Error("only so many are forms:", met)
	}
}

// P14.3: forms of Payload bytes and of one less are parsed and told again; of one byte more, and of any more, there is no way, since its Bytes would be none.
func TestBackAndThereAtPayload(t *testing.T) {
	for _, folds := range [][]api.Fold{nil, capitals(), fold.Plain()} {
		for n := 200; n <= 380; n++ {
			form := plainForm(long(t, folds, n))
			c, err := words.Parse(form)
			back, backErr := words.Bytes(c)
			if n > 240 {
				if err != api.ErrConf || !isZero(c) {
					t.Fatalf("Parse of a form of %d bytes is %q, %d", n, fmt.Sprint(c), int(err))
				}
			} else if err != api.OK || backErr != api.OK || !slices.Equal(back, form) {
				t.Fatalf("Bytes of Parse of %d bytes has %d, %d, %d", n, len(back), int(err), int(backErr))
			}
		}
	}
	for _, letters := range []string{"a", "é"} {
		for n := range 33 {
			c := api.Conf{Cap: 12}
			for i := range n {
				c.Stops = append(c.Stops, strings.Repeat(letters, 11)+string(rune(0x400+i)))
			}
			wantForm(t, c)
			thereAndBack(t, c)
			wantRead(t, plainForm(c))
		}
	}
}

// wantOwnTerms asks P14.4 of a way and a text.
func wantOwnTerms(t *testing.T, c api.Conf, text []byte) {
	t.Helper()
	last := -1
	for x := range words.All(c, text) {
		wantOne(t, c, []byte(x.Term), x.Term, api.OK)
		wantTokens(t, c, []byte(x.Term), terms(0, x.Term))
		if n := fold.Count([]byte(x.Term)); n < 1 || n > c.Cap || len(x.Term) > 2*c.Cap {
			t.Fatalf("the term %q has %d runes, %d bytes; Cap is %d", x.Term, n, len(x.Term), c.Cap)
		}
		if words.Stop(c, x.Term) {
			t.Fatalf("by %q the stop word %q is told", fmt.Sprint(c), x.Term)
		}
		if x.Pos <= last || x.Pos >= words.Count(text) {
			t.Fatalf("behind the place %d stands %d; there are %d words", last, x.Pos, words.Count(text))
		}
		last = x.Pos
	}
}

// P14.4: One of a term that was told is it; it has at most Cap runes, 2 * Cap bytes, and is no stop word; places rise, and are below Count.
func TestATermIsItsOwnTerm(t *testing.T) {
	r := draws(11)
	for range 1500 {
		c := r.way()
		text := r.text(c, 12)
		wantOwnTerms(t, c, text)
		for _, stop := range c.Stops {
			wantOne(t, c, []byte(stop), stop, api.OK)
		}
		if one, err := words.One(c, text); err == api.OK {
			wantOne(t, c, []byte(one), one, api.OK)
		}
	}
}

// wantBehind asks P14.5 of a way and two texts.
func wantBehind(t *testing.T, c api.Conf, a, b []byte) {
	t.Helper()
	want := words.Tokens(c, a)
	for _, x := range words.Tokens(c, b) {
		want = append(want, api.Token{Term: x.Term, Pos: x.Pos + words.Count(a)})
	}
	both := slices.Concat(a, []byte(" "), b)
	wantTokens(t, c, both, want)
	wantCount(t, both, words.Count(a)+words.Count(b))
}

// P14.5: the terms of a text, a blank, and another text are those of the one, and those of the other one, whose places are greater by the Count of the one.
func TestOneBehindTheOther(t *testing.T) {
	r := draws(12)
	for range 1500 {
		c := r.conf()
		a, b := r.text(c, 8), r.text(c, 8)
		wantBehind(t, c, a, b)
		wantBehind(t, c, a, a)
		wantBehind(t, c, nil, b)
		wantBehind(t, c, a, nil)
		for cut := range len(a) + 1 { // amid a word, and amid a rune's form, too
			wantBehind(t, c, a[:cut], a[cut:])
		}
	}
}

// wantFoldedAlike asks P14.6 of a way and a text.
func wantFoldedAlike(t *testing.T, c api.Conf, text []byte) {
	t.Helper()
	folded := []byte(fold.Text(c.Folds, text))
	wantTokens(t, c, folded, words.Tokens(c, text))
	wantCount(t, folded, words.Count(text))
	term, err := words.One(c, text)
	wantOne(t, c, folded, term, err)
}

// P14.6: a text, and its runes folded, have the same terms, at the same places.
func TestFoldedAlike(t *testing.T) {
	r := draws(13)
	for range 2000 {
		c := r.conf()
		wantFoldedAlike(t, c, r.text(c, 12))
	}
}

func FuzzTexts(f *testing.F) {
	r := draws(14)
	for range 30 {
		c := r.way()
		f.Add(plainForm(c), r.text(c, 6), r.text(c, 3))
	}
	f.Fuzz(func(t *testing.T, form, a, b []byte) {
		c, _ := words.Parse(form)
		thereAndBack(t, c)
		wantAll(t, c, a)
		wantOwnTerms(t, c, a)
		wantBehind(t, c, a, b)
		wantFoldedAlike(t, c, a)
	})
}

func FuzzWays(f *testing.F) {
	f.Add(int32('A'), int32('a'), 26, 4, "and", "the", "The cat and\xffthe dog")
	f.Add(int32('0'), int32('x'), 2, 1, "x", "y", "0 1 2")
	f.Add(int32(0x100), int32(0x400), 256, 12, "Ѐ", "ЀЀ", "Āā")
	f.Fuzz(func(t *testing.T, from, to int32, n, most int, one, other, text string) {
		for _, folds := range [][]api.Fold{nil, {{From: from, To: to, N: n}}} {
			for _, stops := range [][]string{nil, {one}, {one, other}} {
				c := api.Conf{Folds: folds, Stops: stops, Cap: most}
				wantForm(t, c)
				wantAll(t, c, []byte(text))
				if words.Stop(c, one) != plainStop(c, one) || words.Stop(c, other) != plainStop(c, other) {
					t.Fatalf("Stop by %q", fmt.Sprint(c))
				}
			}
		}
	})
}
