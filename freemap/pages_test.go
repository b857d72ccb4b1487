package freemap_test

import (
	"bytes"
	"fmt"
	"slices"
	"testing"

	"incipit/api"
	"incipit/freemap"
	"incipit/head"
)

// P8.1: the edges by their plain numbers.
func TestNeedByNumbers(t *testing.T) {
	for _, c := range [][2]int{{-1, 0}, {0, 0}, {1, 0}, {7, 0}, {8, 1}, {9, 1}, {1023, 1}, {1024, 1}, {1025, 2}, {2047, 2}, {api.MaxPages, 2}, {api.MaxPages + 1, 0}, {3000, 0}} {
		if got := freemap.Need(c[0]); got != c[1] {
			t.Errorf("Need(%d) is %d, not %d", c[0], got, c[1])
		}
	}
	for _, pages := range noSizes {
		if got := freemap.Need(pages); got != 0 {
			t.Errorf("Need(%d) is %d", pages, got)
		}
	}
}

// P8.1: as many maps as Need says are those that a head of so many pages has, and no other number of them; so do Put and Get.
func TestNeedAgrees(t *testing.T) {
	for pages := -70; pages < 2200; pages++ {
		need := freemap.Need(pages)
		if need != plainNeed(pages) {
			t.Fatalf("Need(%d) is %d, not %d", pages, need, plainNeed(pages))
		}
		for n := range 4 {
			h := api.Head{Epoch: 1, Pages: pages, Maps: from(2, 2+n)}
			if ok := head.Check(h) == api.OK; ok != (need > 0 && n == need) {
				t.Fatalf("a head of %d pages with %d maps: %v, and Need is %d", pages, n, ok, need)
			}
			wantGetErr := api.ErrMap
			switch {
			case need == 0:
				wantGetErr = api.ErrArg
			case n == need:
				wantGetErr = api.OK
			}
			l, e := freemap.Get(pages, slices.Repeat([][]byte{make([]byte, 240)}, n)...)
			if e != wantGetErr || len(l) != 0 {
				t.Fatalf("Get(%d) of %d pages answers %v, %d, not %d", pages, n, l, int(e), int(wantGetErr))
			}
			b, e := freemap.Put(pages, nil, n)
			if (e == api.OK) != (n < need) || (e == api.ErrArg) != (b == nil) || e == api.OK && len(b) != 240 {
				t.Fatalf("Put(%d, nil, %d) answers %v, %d", pages, n, b, int(e))
			}
		}
	}
}

// wantPut asks for each page of a list's free map.
func wantPut(t *testing.T, what string, pages int, taken []int) {
	t.Helper()
	before := slices.Clone(taken)
	for i := range plainNeed(pages) {
		b, e := freemap.Put(pages, taken, i)
		wantErr(t, fmt.Sprintf("%s: Put(%d, %v, %d)", what, pages, taken, i), e, api.OK)
		if len(b) != 240 || !bytes.Equal(b, plainPut(pages, taken, i)) {
			t.Fatalf("%s: Put(%d, %v, %d) is %v", what, pages, taken, i, b)
		}
		for at := 128; at < 240; at++ {
			if b[at] != 0 {
				t.Fatalf("%s: byte %d is %d", what, at, b[at])
			}
		}
	}
	if !slices.Equal(before, taken) {
		t.Fatalf("%s: Put has written to the list", what)
	}
}

// P8.1: a single page's bit is where the chapter says, and no other bit is 1.
func TestPutOfSinglePages(t *testing.T) {
	for _, c := range []struct{ page, i, at, value int }{
		{0, 0, 0, 1}, {1, 0, 0, 2}, {7, 0, 0, 128}, {8, 0, 1, 1}, {15, 0, 1, 128}, {16, 0, 2, 1}, {63, 0, 7, 128}, {64, 0, 8, 1},
		{1016, 0, 127, 1}, {1023, 0, 127, 128}, {1024, 1, 0, 1}, {1031, 1, 0, 128}, {1032, 1, 1, 1}, {2040, 1, 127, 1}, {2047, 1, 127, 128},
	} {
		for i := range 2 {
			b, e := freemap.Put(api.MaxPages, []int{c.page}, i)
			wantErr(t, fmt.Sprint("Put of page ", c.page), e, api.OK)
			want := make([]byte, 240)
			if i == c.i {
				want[c.at] = byte(c.value)
			}
			if !bytes.Equal(b, want) {
				t.Errorf("page %d on page %d of the free map: %v", c.page, i, b)
			}
		}
	}
	for _, pages := range sizes {
		for p := range pages {
			if p < 70 || p > pages-10 || p > 1010 && p < 1040 {
				wantPut(t, "a single page", pages, []int{p})
				wantPut(t, "all but one", pages, without(from(0, pages), p))
			}
		}
	}
}

// P8.1: lists that are drawn, held against a list of bools; nil and empty ones, and all pages.
func TestPutOfManyLists(t *testing.T) {
	r := draws(1)
	for _, pages := range sizes {
		wantPut(t, "nil", pages, nil)
		wantPut(t, "empty", pages, []int{})
		wantPut(t, "all", pages, from(0, pages))
		for range 10 {
			wantPut(t, "drawn", pages, r.list(pages))
		}
	}
	for bits := range 1 << 8 {
		var l []int
		for p := range 8 {
			if bits>>p&1 == 1 {
				l = append(l, p)
			}
		}
		b, e := freemap.Put(8, l, 0)
		if e != api.OK || int(b[0]) != bits || !bytes.Equal(b[1:], make([]byte, 239)) {
			t.Fatalf("Put of %v is %v, %d", l, b, int(e))
		}
	}
}

// noPut asks that a Put is refused, and answers nothing beside the error.
func noPut(t *testing.T, what string, pages int, taken []int, i int) {
	t.Helper()
	before := slices.Clone(taken)
	if b, e := freemap.Put(pages, taken, i); b != nil || e != api.ErrArg {
		t.Errorf("%s: Put(%d, .., %d) answers %v, %d", what, pages, i, b, int(e))
	}
	if !slices.Equal(before, taken) {
		t.Errorf("%s: Put has written to the list", what)
	}
}

// P8.1, R2: ErrArg of what is no such list, of an i that there is not, and of so many pages that may not be; ErrArg also where several of these apply.
func TestPutOfWrongArguments(t *testing.T) {
	for _, pages := range sizes {
		need := plainNeed(pages)
		for what, l := range noLists(pages) {
			for i := -1; i <= need; i++ {
				noPut(t, what, pages, l, i)
			}
		}
		for _, i := range append([]int{-1, need, need + 1, 1024, pages, 1 << 8, 1<<8 + 1}, farPages...) {
			noPut(t, "i", pages, nil, i)
			noPut(t, "i", pages, []int{0, 1, 2}, i)
			noPut(t, "i", pages, from(0, pages), i)
		}
	}
	for _, pages := range noSizes {
		for _, l := range [][]int{nil, {}, {0}, {0, 1, 2}, {-1}, {3, 3}, {pages}} {
			for i := -1; i < 4; i++ {
				noPut(t, "pages", pages, l, i)
			}
		}
	}
}

// R3: what is answered is nobody's else, and the list is not kept.
func TestPutIsOfItsOwn(t *testing.T) {
	taken := []int{0, 1, 9}
	a, _ := freemap.Put(8+8, taken, 0)
	b, _ := freemap.Put(8+8, taken, 0)
	for i := range a {
		a[i] = 255
	}
	taken[0], taken[1], taken[2] = 2, 3, 4
	if !bytes.Equal(b, plainPut(16, []int{0, 1, 9}, 0)) {
		t.Error("two answers are one", b)
	}
}

// wantGet asks that a free map's pages are those of a list, and that they are left as they are.
func wantGet(t *testing.T, what string, pages int, l [][]byte, want []int) {
	t.Helper()
	before := copies(l)
	got, e := freemap.Get(pages, l...)
	wantErr(t, what+": Get", e, api.OK)
	if !slices.Equal(got, want) {
		t.Fatalf("%s: Get(%d) is %v, not %v", what, pages, got, want)
	}
	if !slices.EqualFunc(before, l, bytes.Equal) {
		t.Fatalf("%s: Get has written to the pages", what)
	}
}

// noGet asks that Get refuses pages by that error, and answers nothing beside it.
func noGet(t *testing.T, what string, want api.Errno, pages int, l ...[]byte) {
	t.Helper()
	before := copies(l)
	if got, e := freemap.Get(pages, l...); len(got) != 0 || e != want {
		t.Fatalf("%s: Get(%d) answers %v, %d, not %d", what, pages, got, int(e), int(want))
	}
	if !slices.EqualFunc(before, l, bytes.Equal) {
		t.Fatalf("%s: Get has written to the pages", what)
	}
}

// copies are the same pages in bytes of their own.
func copies(l [][]byte) [][]byte {
	var out [][]byte
	for _, b := range l {
		out = append(out, bytes.Clone(b))
	}
	return out
}

// P8.1: Get of what a list's pages bear is that list.
func TestGet(t *testing.T) {
	r := draws(2)
	for _, pages := range sizes {
		for _, l := range [][]int{nil, from(0, pages), {0}, {pages - 1}, {0, pages - 1}} {
			wantGet(t, fmt.Sprint("of ", pages), pages, plainPuts(pages, l), l)
		}
		for range 20 {
			l := r.list(pages)
			wantGet(t, fmt.Sprint("drawn, of ", pages), pages, plainPuts(pages, l), l)
		}
	}
}

// P8.1: too few pages, too many, none, nil ones, and those that are too short or too long are no free map.
func TestGetOfAnotherNumberOrLength(t *testing.T) {
	r := draws(3)
	for _, pages := range sizes {
		l := plainPuts(pages, r.list(pages))
		need := len(l)
		noGet(t, "none", api.ErrMap, pages)
		noGet(t, "one more", api.ErrMap, pages, append(copies(l), make([]byte, 240))...)
		noGet(t, "one more, nil", api.ErrMap, pages, append(copies(l), nil)...)
		noGet(t, "one more, the same", api.ErrMap, pages, append(copies(l), l[0])...)
		noGet(t, "many more", api.ErrMap, pages, slices.Repeat(l, 1000)...)
		for k := range need {
			noGet(t, "one fewer", api.ErrMap, pages, slices.Delete(copies(l), k, k+1)...)
			for _, b := range [][]byte{nil, {}, l[k][:1], l[k][:127], l[k][:128], l[k][:129], l[k][:239], append(bytes.Clone(l[k]), 0), append(bytes.Clone(l[k]), 1), append(bytes.Clone(l[k]), make([]byte, 16)...), append(make([]byte, 16), l[k]...), append(bytes.Clone(l[k]), make([]byte, 1<<16)...)} {
				changed := copies(l)
				changed[k] = b
				noGet(t, fmt.Sprintf("page %d of %d bytes", k, len(b)), api.ErrMap, pages, changed...)
			}
			changed := copies(l)
			changed[k] = make([]byte, 239)
			noGet(t, "noughts that are too few", api.ErrMap, pages, changed...)
			changed[k] = make([]byte, 241)
			noGet(t, "noughts that are too many", api.ErrMap, pages, changed...)
		}
	}
}

// P8.1, R2: so many pages that may not be are told ahead of what is no free map.
func TestGetOfWrongNumbers(t *testing.T) {
	for _, pages := range noSizes {
		noGet(t, "none", api.ErrArg, pages)
		noGet(t, "nil", api.ErrArg, pages, nil)
		noGet(t, "one", api.ErrArg, pages, make([]byte, 240))
		noGet(t, "two", api.ErrArg, pages, make([]byte, 240), make([]byte, 240))
		noGet(t, "three", api.ErrArg, pages, make([]byte, 240), make([]byte, 240), nil)
		noGet(t, "all ones", api.ErrArg, pages, bytes.Repeat([]byte{255}, 240))
	}
}

// P8.1: each bit turned: of a page that there is it is another list, of none it is no free map.
func TestGetOfOneBitTurned(t *testing.T) {
	r := draws(4)
	for _, pages := range []int{8, 9, 64, 1023, 1024, 1025, 1100, 2047, api.MaxPages} {
		for _, taken := range [][]int{nil, from(0, pages), r.list(pages)} {
			l := plainPuts(pages, taken)
			for k := range l {
				for bit := range 240 * 8 {
					l[k][bit/8] ^= 1 << (bit % 8)
					p := k*1024 + bit
					what := fmt.Sprintf("bit %d of page %d", bit, k)
					if bit >= 1024 || p >= pages {
						noGet(t, what, api.ErrMap, pages, l...)
					} else if bit%5 == 0 || p > pages-10 {
						wantGet(t, what, pages, l, turned(taken, p))
					}
					l[k][bit/8] ^= 1 << (bit % 8)
				}
			}
		}
	}
}

// turned is a list without p, if it is in it, else with it.
func turned(l []int, p int) []int {
	at, in := slices.BinarySearch(l, p)
	if in {
		return without(l, p)
	}
	return slices.Insert(slices.Clone(l), at, p)
}

// P8.1: pages of two lists are that list's that they make together; those that are exchanged are another list's, or no free map where a page has bits that the other one may not have.
func TestGetOfExchangedPages(t *testing.T) {
	r := draws(5)
	for range 20 {
		a, b := r.list(api.MaxPages), r.list(api.MaxPages)
		l := [][]byte{plainPut(api.MaxPages, a, 1), plainPut(api.MaxPages, b, 0)}
		var want []int
		for _, p := range a {
			if p >= 1024 {
				want = append(want, p-1024)
			}
		}
		for _, p := range b {
			if p < 1024 {
				want = append(want, p+1024)
			}
		}
		wantGet(t, "exchanged", api.MaxPages, l, want)
	}
	for p := range 1024 {
		l := plainPuts(1100, []int{p})
		if p < 76 {
			wantGet(t, "exchanged", 1100, [][]byte{l[1], l[0]}, []int{p + 1024})
		} else {
			noGet(t, fmt.Sprint("exchanged, page ", p), api.ErrMap, 1100, l[1], l[0])
		}
	}
	l := plainPuts(1100, from(0, 1100))
	noGet(t, "the first one twice", api.ErrMap, 1100, l[0], l[0])
	wantGet(t, "the second one twice", 1100, [][]byte{l[1], l[1]}, append(from(0, 76), from(1024, 1100)...))
}

// P8.1: a free map of more pages is one of fewer just if no page is taken beyond them.
func TestGetOfOtherSizes(t *testing.T) {
	for _, pages := range []int{8, 9, 100, 1023, 1024} {
		for p := range 1024 {
			l := plainPuts(1024, []int{p})
			if p < pages {
				wantGet(t, "fewer", pages, l, []int{p})
			} else {
				noGet(t, "fewer", api.ErrMap, pages, l...)
			}
		}
	}
}

// R3: what is answered is nobody's else, and what is handed in is not kept.
func TestGetIsOfItsOwn(t *testing.T) {
	l := plainPuts(1100, []int{0, 9, 1030})
	a, _ := freemap.Get(1100, l...)
	b, _ := freemap.Get(1100, l...)
	a[0], a[1], a[2] = 5, 6, 7
	for _, page := range l {
		clear(page)
	}
	if !slices.Equal(b, []int{0, 9, 1030}) {
		t.Error("two answers are one", b)
	}
}

// P8.5: Get of all Puts is what was taken.
func TestThereAndBack(t *testing.T) {
	r := draws(6)
	for _, pages := range append(from(8, 40), sizes...) {
		for k := range 30 {
			taken := r.list(pages)
			switch k {
			case 0:
				taken = nil
			case 1:
				taken = from(0, pages)
			}
			var l [][]byte
			for i := range freemap.Need(pages) {
				b, e := freemap.Put(pages, taken, i)
				wantErr(t, "Put", e, api.OK)
				l = append(l, b)
			}
			wantGet(t, fmt.Sprint("there and back, of ", pages), pages, l, taken)
		}
	}
}

// plainIsMap answers whether l are as many pages as a free map has, of 240 bytes, with bits of pages that there are.
func plainIsMap(pages int, l [][]byte) bool {
	if len(l) != plainNeed(pages) {
		return false
	}
	for i, b := range l {
		if len(b) != 240 {
			return false
		}
		for bit := range 240 * 8 {
			if b[bit/8]>>(bit%8)&1 == 1 && (bit >= 1024 || i*1024+bit >= pages) {
				return false
			}
		}
	}
	return true
}

// P8.1, P8.5: of any bytes Get answers the list whose Puts they are, or ErrMap.
func FuzzGet(f *testing.F) {
	f.Add(uint16(8), []byte{3}, []byte{})
	f.Add(uint16(1100), plainPut(1100, []int{0, 1099}, 0), plainPut(1100, []int{0, 1099}, 1))
	f.Add(uint16(2048), bytes.Repeat([]byte{255}, 240), make([]byte, 240))
	f.Fuzz(func(t *testing.T, n uint16, a, b []byte) {
		pages := int(n)
		for _, l := range [][][]byte{{a}, {b}, {a, b}, {append(a[:len(a):len(a)], make([]byte, max(0, 240-len(a)))...)}} {
			taken, e := freemap.Get(pages, l...)
			switch {
			case plainNeed(pages) == 0:
				wantErr(t, "Get", e, api.ErrArg)
			case e == api.OK:
				if !slices.EqualFunc(l, plainPuts(pages, taken), bytes.Equal) {
					t.Fatalf("Get(%d) is %v, whose Puts are others", pages, taken)
				}
			default:
				wantErr(t, "Get", e, api.ErrMap)
				if plainIsMap(pages, l) {
					t.Fatalf("Get(%d) refuses a free map: %v", pages, l)
				}
			}
		}
	})
}
