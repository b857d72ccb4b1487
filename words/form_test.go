package words_test

import (
	"bytes"
	"fmt"
	"slices"
	"strings"
	"testing"

	"incipit/api"
	"incipit/fold"
	"incipit/words"
)

// long is a way whose form has just n bytes: stop words of 11 letters, and one or two others that make it up.
func long(t *testing.T, folds []api.Fold, n int) api.Conf {
	t.Helper()
	c := api.Conf{Folds: folds, Cap: 12}
	left := n - 3 - 5*len(folds)
	for left > 24 {
		c.Stops = append(c.Stops, fmt.Sprintf("a%08dbc", len(c.Stops)))
		left -= 12
	}
	if left > 13 {
		c.Stops = append(c.Stops, "b"+strings.Repeat("c", left-14))
		left = 12
	}
	c.Stops = append(c.Stops, "c"+strings.Repeat("d", left-2))
	if got := len(plainForm(c)); got != n || !plainMayBe(c) {
		t.Fatalf("%q has %d bytes, not %d", fmt.Sprint(c), got, n)
	}
	return c
}

// P14.1: the form of ways, byte by byte.
func TestBytesAndParse(t *testing.T) {
	for _, x := range []struct {
		c    api.Conf
		form []byte
	}{
		{api.Conf{Cap: 1}, []byte{1, 0, 0}},
		{api.Conf{Cap: 12, Folds: []api.Fold{}, Stops: []string{}}, []byte{12, 0, 0}},
		{by(4, "the"), []byte{4, 1, 0, 65, 0, 97, 25, 1, 3, 't', 'h', 'e'}},
		{api.Conf{Folds: []api.Fold{{From: 0x4FF, To: 0x100, N: 1}}, Cap: 2}, []byte{2, 1, 4, 255, 1, 0, 0, 0}},
		{api.Conf{Folds: []api.Fold{{From: 0x100, To: 0x370, N: 256}}, Cap: 3}, []byte{3, 1, 1, 0, 3, 112, 255, 0}},
		{api.Conf{Stops: []string{"a", "é", "ӿӿ"}, Cap: 2}, []byte{2, 0, 3, 1, 'a', 2, 0xC3, 0xA9, 4, 0xD3, 0xBF, 0xD3, 0xBF}},
		{api.Conf{Stops: []string{strings.Repeat("é", 12)}, Cap: 12}, slices.Concat([]byte{12, 0, 1, 24}, bytes.Repeat([]byte{0xC3, 0xA9}, 12))},
		{api.Conf{Folds: []api.Fold{{From: 'A', To: 'a', N: 2}, {From: 'C', To: 'z', N: 1}}, Stops: []string{"0", "b"}, Cap: 7}, []byte{7, 2, 0, 65, 0, 97, 1, 0, 67, 0, 122, 0, 2, 1, '0', 1, 'b'}},
	} {
		if b, err := words.Bytes(x.c); !slices.Equal(b, x.form) || err != api.OK {
			t.Errorf("Bytes(%q) is %v, %d, not %v", fmt.Sprint(x.c), b, int(err), x.form)
		}
		wantParse(t, x.form, x.c, true)
		wantForm(t, x.c)
	}
	wantForm(t, api.Conf{Folds: fold.Plain(), Stops: many(32), Cap: 4})
}

// P14.1: Bytes of ways whose form has Payload bytes, one less and one more; Parse of such forms, which answers none that is longer.
func TestBytesOfLongForms(t *testing.T) {
	eight := []api.Fold{}
	for i := range rune(8) {
		eight = append(eight, api.Fold{From: 'A' + 2*i, To: 'a' + 2*i, N: 1})
	}
	for _, folds := range [][]api.Fold{nil, capitals(), fold.Plain(), eight} {
		for n := 100; n <= 300; n++ {
			c := long(t, folds, n)
			b, err := words.Bytes(c)
			if n <= 240 && (err != api.OK || len(b) != n) || n > 240 && (err != api.ErrLong || b != nil) {
				t.Fatalf("Bytes of a form of %d bytes has %d, %d", n, len(b), int(err))
			}
			wantForm(t, c)
		}
	}
	most := api.Conf{Folds: eight, Cap: 12}
	for i := range 32 {
		most.Stops = append(most.Stops, strings.Repeat("ӿ", 11)+string(rune(0x400+i)))
	}
	if n := len(plainForm(most)); n != 3+40+32*25 {
		t.Fatal("the longest form has", n)
	}
	wantForm(t, most)
}

// P14.1, R2: Bytes of ways that may not be: Check's error ahead of ErrLong, and no bytes.
func TestBytesOfWaysThatMayNotBe(t *testing.T) {
	bad := long(t, nil, 260)
	bad.Stops = append(bad.Stops, "X-")
	for _, c := range []api.Conf{{}, {Cap: 13}, {Cap: 256 + 3}, bad, by(3, "The"), by(3, "b", "a"), by(3, ""), by(3, "abcd"), by(4, many(33)...), {Folds: make([]api.Fold, 256), Cap: 3}, by(4, many(256)...), by(12, strings.Repeat("a", 256))} {
		wantErr(t, "may not be", c, api.ErrConf)
		wantForm(t, c)
	}
}

// P14.1: Parse of forms that are cut off behind each byte, and that have bytes behind them.
func TestParseOfFormsCutOff(t *testing.T) {
	r := draws(3)
	for i := range 200 {
		c := r.way()
		if i == 0 {
			c = api.Conf{Folds: fold.Plain(), Stops: many(32), Cap: 4}
		}
		form := plainForm(c)
		for n := range form {
			wantParse(t, form[:n], api.Conf{}, false)
		}
		for _, more := range []byte{0, 1, 'a', 255} {
			wantParse(t, append(slices.Clone(form), more), api.Conf{}, false)
			wantParse(t, append(slices.Clone(form), more, more), api.Conf{}, false)
		}
		wantParse(t, append(slices.Clone(form), form...), api.Conf{}, false)
		wantForm(t, c)
	}
	wantParse(t, nil, api.Conf{}, false)
	wantParse(t, []byte{}, api.Conf{}, false)
	wantParse(t, []byte{5}, api.Conf{}, false)
	wantParse(t, []byte{5, 0}, api.Conf{}, false)
	wantParse(t, []byte{5, 0, 0}, api.Conf{Cap: 5}, true)
	wantParse(t, make([]byte, 240), api.Conf{}, false)
	wantParse(t, append(plainForm(by(4, "the")), make([]byte, 200)...), api.Conf{}, false)
}

// wantRead holds Parse of any bytes against a plain reading by the words; what is parsed has just these bytes. It answers whether there was a way.
func wantRead(t *testing.T, b []byte) bool {
	t.Helper()
	want, is := plainParse(b)
	wantParse(t, b, want, is)
	if !is {
		return false
	}
	c, _ := words.Parse(b)
	if !slices.Equal(plainForm(c), b) {
		t.Fatalf("Parse(%x) is %q, whose form is %x", b, fmt.Sprint(c), plainForm(c))
	}
	if back, err := words.Bytes(c); err != api.OK || !slices.Equal(back, b) {
		t.Fatalf("Bytes of Parse(%x) is %x, %d", b, back, int(err))
	}
	return true
}

// P14.1: Parse of forms with each byte changed, to each other byte.
func TestParseOfFormsWithAByteChanged(t *testing.T) {
	ways := []api.Conf{by(4, "the"), {Cap: 1}, {Folds: fold.Plain(), Stops: []string{"and", "the", "én"}, Cap: 5}, {Folds: []api.Fold{{From: 0x100, To: 0x370, N: 256}}, Stops: []string{"Ͱ", "ͱ"}, Cap: 1}, {Stops: []string{"a", "aa", "ab", "b"}, Cap: 2}}
	met := 0
	for _, c := range ways {
		form := plainForm(c)
		for i := range form {
			for x := range 256 {
				b := slices.Clone(form)
				b[i] = byte(x)
				if wantRead(t, b) {
					met++
				}
			}
		}
	}
	if met < 200 {
		t.Error("of the bytes that were changed too few make another form:", met)
	}
}

// P14.1: Parse of forms that say of one thing what may not be.
func TestParseOfWhatMayNotBe(t *testing.T) {
	for what, b := range map[string][]byte{
		"Cap 0":                           {0, 0, 0},
		"Cap 13":                          {13, 0, 0},
		"nine ranges":                     slices.Concat([]byte{3, 9}, bytes.Repeat([]byte{0, 65, 0, 97, 0}, 9), []byte{0}),
		"a range of runes no letters":     {3, 1, 0, 64, 0, 97, 1, 0},
		"ranges that do not rise":         {3, 2, 0, 67, 0, 99, 0, 0, 65, 0, 97, 0, 0},
		"a range folded twice":            {3, 1, 0, 65, 0, 66, 2, 0},
		"one stop word too many":          plainForm(by(4, many(33)...)),
		"an empty stop word":              {3, 0, 1, 0},
		"stop words that do not rise":     {3, 0, 2, 1, 'b', 1, 'a'},
		"one twice":                       {3, 0, 2, 1, 'a', 1, 'a'},
		"one longer than Cap":             {3, 0, 1, 4, 'a', 'b', 'c', 'd'},
		"one of no letter":                {3, 0, 1, 3, 'a', '-', 'c'},
		"one of no form":                  {3, 0, 1, 1, 0xC3},
		"a form cut by the length":        {3, 0, 2, 1, 0xC3, 1, 0xA9},
		"one that is folded":              {3, 1, 0, 65, 0, 97, 25, 1, 1, 'A'},
		"numbers with the lowest first":   {3, 1, 65, 0, 97, 0, 25, 0},
		"how many bytes, with one more":   {3, 0, 1, 4, 't', 'h', 'e'},
		"25 bytes":                        slices.Concat([]byte{12, 0, 1, 25}, bytes.Repeat([]byte{0xC3, 0xA9}, 12), []byte{'a'}),
		"255 bytes":                       slices.Concat([]byte{12, 0, 1, 255}, bytes.Repeat([]byte{'a'}, 255)),
		"255 ranges":                      slices.Concat([]byte{3, 255}, bytes.Repeat([]byte{0, 65, 0, 97, 0}, 255), []byte{0}),
		"255 stop words, and no bytes":    {3, 0, 255},
		"255 empty stop words":            slices.Concat([]byte{3, 0, 255}, make([]byte, 255)),
		"the number of stop words left":   {3, 1, 0, 65, 0, 97, 25},
		"stop words ahead of the ranges":  {3, 1, 3, 't', 'h', 'e', 1, 0, 65, 0, 97, 25},
		"a surrogate's number as a range": {3, 1, 0xD8, 0, 0, 97, 0, 0},
	} {
		if _, is := plainParse(b); is {
			t.Errorf("%s: %x is a form", what, b)
		}
		wantParse(t, b, api.Conf{}, false)
	}
}

// drawnForm draws bytes that are near a form: one, one with bytes changed, put in, left out, or any bytes.
func (r *draws) drawnForm() []byte {
	b := plainForm(r.way())
	if r.below(4) == 0 {
		b = make([]byte, r.below(20))
		for i := range b {
			b[i] = byte(r.below(1 + r.below(256)))
		}
	}
	for range r.below(4) {
		if len(b) == 0 {
			break
		}
		i := r.below(len(b))
		switch r.below(4) {
		case 0:
			b[i] = byte(r.below(256))
		case 1:
			b[i]++
		case 2:
			b = slices.Insert(b, i, byte(r.below(4)))
		case 3:
			b = slices.Delete(b, i, i+1)
		}
	}
	return b
}

// P14.1: Parse of drawn bytes, held against a plain reading by the words.
func TestParseOfDrawnBytes(t *testing.T) {
	r := draws(4)
	met := 0
	for range 10000 {
		if wantRead(t, r.drawnForm()) {
			met++
		}
	}
	if met < 2000 || met > 9000 {
		t.Error("of the bytes that were drawn too few are of one sort:", met)
	}
}

// P14.1: Parse of all short bytes, held against a plain reading by the words.
func TestParseOfAllShortBytes(t *testing.T) {
	for _, set := range [][]byte{{0, 1, 2, 12, 13, 'a', 'A'}} {
		b := make([]byte, 0, 6)
		var all func()
		all = func() {
			wantRead(t, b)
			if len(b) == 6 {
				return
			}
			for _, x := range set {
				b = append(b, x)
				all()
				b = b[:len(b)-1]
			}
		}
		all()
	}
}

func FuzzParse(f *testing.F) {
	r := draws(5)
	for range 30 {
		f.Add(r.drawnForm())
	}
	f.Fuzz(func(t *testing.T, b []byte) { wantRead(t, b) })
}
