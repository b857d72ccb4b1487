package pack_test

import (
	"bytes"
	"testing"

	"incipit/pack"
)

// shortTexts: all texts of at most most bytes out of a few that stand at the edges.
func shortTexts(most int) [][]byte {
	all := [][]byte{{}}
	row := all
	for range most {
		var longer [][]byte
		for _, t := range row {
			for _, c := range []byte{0, 1, 127, 128, 254, 255} {
				longer = append(longer, append(bytes.Clone(t), c))
			}
		}
		all = append(all, longer...)
		row = longer
	}
	return all
}

// plainCompare is the promise's words, byte by byte.
func plainCompare(a, b []byte) int {
	for i := 0; i < len(a) && i < len(b); i++ {
		if a[i] < b[i] {
			return -1
		}
		if a[i] > b[i] {
			return 1
		}
	}
	switch {
	case len(a) < len(b):
		return -1
	case len(a) > len(b):
		return 1
	}
	return 0
}

// P1.3: Compare, with bytes above 127, one that begins with the other, and nil.
func TestCompare(t *testing.T) {
	for _, c := range []struct {
		a, b []byte
		want int
	}{
		{nil, nil, 0},
		{nil, []byte{}, 0},
		{nil, []byte{0}, -1},
		{[]byte{0}, nil, 1},
		{[]byte("a"), []byte("ab"), -1},
		{[]byte("ab"), []byte("a"), 1},
		{[]byte("b"), []byte("ab"), 1},
		{[]byte{127}, []byte{128}, -1},
		{[]byte{255}, []byte{0, 255}, 1},
		{[]byte("same"), []byte("same"), 0},
	} {
		if got := pack.Compare(c.a, c.b); got != c.want {
			t.Errorf("Compare(%v, %v) is %d, not %d", c.a, c.b, got, c.want)
		}
	}
	texts := shortTexts(3)
	for _, a := range texts {
		for _, b := range texts {
			if got := pack.Compare(a, b); got != plainCompare(a, b) {
				t.Fatalf("Compare(%v, %v) is %d", a, b, got)
			}
		}
	}
}

// P1.3: Prefix, where one ends, where they part, where they are the same.
func TestPrefix(t *testing.T) {
	for _, c := range []struct {
		a, b string
		want int
	}{
		{"", "", 0},
		{"", "a", 0},
		{"a", "", 0},
		{"a", "b", 0},
		{"abc", "abd", 2},
		{"abc", "xbc", 0},
		{"abc", "ab", 2},
		{"ab", "abc", 2},
		{"abc", "abc", 3},
		{"a\xffc", "a\xffd", 2},
		{"axc", "ayc", 1},
	} {
		if got := pack.Prefix([]byte(c.a), []byte(c.b)); got != c.want {
			t.Errorf("Prefix(%q, %q) is %d, not %d", c.a, c.b, got, c.want)
		}
	}
	if pack.Prefix(nil, nil) != 0 || pack.Prefix(nil, []byte{0}) != 0 {
		t.Error("Prefix of nil")
	}
}

// P1.3: After, with bytes 255 at the end, in the middle, and alone.
func TestAfter(t *testing.T) {
	for _, c := range []struct{ b, want []byte }{
		{[]byte{0}, []byte{1}},
		{[]byte{254}, []byte{255}},
		{[]byte{127}, []byte{128}},
		{[]byte{1, 255}, []byte{2}},
		{[]byte{1, 255, 255}, []byte{2}},
		{[]byte{255, 1}, []byte{255, 2}},
		{[]byte{255, 254, 255}, []byte{255, 255}},
		{[]byte{0, 0}, []byte{0, 1}},
		{[]byte("cat"), []byte("cau")},
	} {
		got, is := pack.After(c.b)
		if !is {
			t.Errorf("After(%v): none", c.b)
		}
		wantBytes(t, "After", got, c.want)
	}
	for _, b := range [][]byte{nil, {}, {255}, {255, 255}, bytes.Repeat([]byte{255}, 300)} {
		if got, is := pack.After(b); is || got != nil {
			t.Errorf("After of %d bytes 255: %v, %v", len(b), got, is)
		}
	}
}

// P1.3: no text that stands behind each one that begins with b stands ahead of After(b).
func TestAfterIsTheLeast(t *testing.T) {
	for _, b := range shortTexts(2) {
		after, is := pack.After(b)
		last := append(bytes.Clone(b), bytes.Repeat([]byte{255}, 8)...)
		if is && pack.Compare(after, last) != 1 {
			t.Errorf("After(%v) is %v: not behind %v", b, after, last)
		}
		for _, x := range shortTexts(3) {
			if pack.Compare(x, last) == 1 && !bytes.HasPrefix(x, b) && (!is || pack.Compare(x, after) == -1) {
				t.Fatalf("After(%v) is %v, %v: %v is less", b, after, is, x)
			}
		}
	}
}

// P1.6: a text begins with b just if it does not stand ahead of b, and stands ahead of After(b).
func TestBetween(t *testing.T) {
	texts := shortTexts(3)
	for _, b := range shortTexts(2) {
		after, is := pack.After(b)
		for _, x := range texts {
			between := pack.Compare(x, b) >= 0 && (!is || pack.Compare(x, after) == -1)
			if between != (pack.Prefix(x, b) == len(b)) || between != bytes.HasPrefix(x, b) {
				t.Fatalf("%v, of those that begin with %v: %v", x, b, between)
			}
		}
	}
}

// R3: what is compared is left as it is, and what After answers is new.
func TestCompareLeavesWhatIsHandedIn(t *testing.T) {
	a, b := []byte{1, 2, 255, 7}, []byte{1, 2, 254}
	pack.Compare(a, b)
	pack.Prefix(a, b)
	after, _ := pack.After(a[:3])
	wantBytes(t, "After", after, []byte{1, 3})
	for i := range after {
		after[i] = 0
	}
	wantBytes(t, "a", a, []byte{1, 2, 255, 7})
	wantBytes(t, "b", b, []byte{1, 2, 254})
	after, _ = pack.After(a)
	a[0] = 99
	wantBytes(t, "After, its bytes changed later", after, []byte{1, 2, 255, 8})
}
