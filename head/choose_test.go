package head_test

import (
	"bytes"
	"fmt"
	"math"
	"testing"

	"incipit/api"
	"incipit/frame"
	"incipit/head"
)

// P6.3: without a copy, or without one that has a page's bytes, there is no head.
func TestChooseOfNothing(t *testing.T) {
	noughts, ones := make([]byte, api.PageSize), bytes.Repeat([]byte{255}, api.PageSize)
	for _, pages := range append(append([]int{}, sizes...), badSizes...) {
		wantNoChoice(t, "no copies", pages)
		for _, copies := range [][][]byte{nil, {}, {nil}, {{}}, {nil, nil}, {nil, nil, nil}, {noughts}, {noughts, noughts}, {ones, ones}, {nil, ones}, {{1}, {2}}} {
			wantNoChoice(t, fmt.Sprint("copies ", len(copies)), pages, copies...)
		}
	}
}

// P6.3: one copy that counts, alone and beside others that do not.
func TestChooseOfOneThatCounts(t *testing.T) {
	for _, pages := range sizes {
		for _, epoch := range epochs {
			h := plainHead(epoch, pages, run(5, 1)...)
			b := plainLay(h)
			other := plainLay(plainHead(epoch+1, 8+(pages-7)%2041, 1)) // of another size
			if epoch&1 == 0 {
				wantChoice(t, "alone", h, 0, b)
				for _, beside := range [][]byte{nil, {}, make([]byte, 256), b, b[:64], other} {
					wantChoice(t, "ahead of another", h, 0, b, beside)
					wantChoice(t, "of three", h, 0, b, beside, b)
				}
			} else {
				wantNoChoice(t, "alone", pages, b)
				for _, beside := range [][]byte{nil, {}, make([]byte, 256), b, b[:64], other} {
					wantChoice(t, "behind another", h, 1, beside, b)
					wantChoice(t, "of three", h, 1, beside, b, b)
				}
			}
		}
	}
}

// P6.3: of two that count the one with the greater epoch, whichever place it has, and whatever else they say.
func TestChooseOfTwoThatCount(t *testing.T) {
	for _, pages := range sizes {
		for _, x := range epochs {
			for _, y := range epochs {
				even, odd := plainHead(x&^1, pages, run(32, 1)...), plainHead(y|1, pages)
				what := fmt.Sprint("epochs ", even.Epoch, " and ", odd.Epoch)
				if even.Epoch > odd.Epoch {
					wantChoice(t, what, even, 0, plainLay(even), plainLay(odd))
				} else {
					wantChoice(t, what, odd, 1, plainLay(even), plainLay(odd))
				}
			}
		}
	}
}

// P6.3: a third copy, and any behind it, count for nothing, be they ever so new.
func TestChooseOfMoreThanTwo(t *testing.T) {
	even, odd := plainHead(8, 64, 1), plainHead(9, 64, 2)
	newer := [][]byte{plainLay(plainHead(10, 64)), plainLay(plainHead(11, 64)), laid(1, 2, 10, plainPut(even)), laid(1, 2, 12, plainPut(even)), laid(1, 3, 11, plainPut(even))}
	for _, third := range newer {
		wantChoice(t, "the second", odd, 1, plainLay(even), plainLay(odd), third)
		wantChoice(t, "the first", even, 0, plainLay(even), nil, third, third)
		wantNoChoice(t, "neither", 64, nil, nil, third)
		wantNoChoice(t, "neither", 64, nil, make([]byte, 256), third, third, plainLay(even))
	}
	many := make([][]byte, 300)
	for i := range many {
		many[i] = plainLay(plainHead(100+uint64(i), 64))
	}
	many[0], many[1] = plainLay(even), nil
	wantChoice(t, "many", even, 0, many...)
	many[0] = nil
	wantNoChoice(t, "many", 64, many...)
}

// wantPassedOver asks that b counts at no place, alone and beside an older head and a newer one that do count.
func wantPassedOver(t *testing.T, what string, b []byte, pages int) {
	t.Helper()
	wantNoChoice(t, what, pages, b)
	wantNoChoice(t, what, pages, nil, b)
	wantNoChoice(t, what, pages, b, b)
	for _, epoch := range []uint64{0, 2, 1<<64 - 2} {
		even, odd := plainHead(epoch, pages), plainHead(epoch+1, pages)
		wantChoice(t, what, even, 0, plainLay(even), b)
		wantChoice(t, what, odd, 1, b, plainLay(odd))
	}
}

// P6.3: copies of other than a page's bytes.
func TestChooseOfAnotherLength(t *testing.T) {
	for _, h := range []api.Head{plainHead(8, 64, 7), plainHead(9, 64, 7)} {
		b := plainLay(h)
		for _, n := range []int{0, 1, 4, 16, 63, 64, 128, 192, 240, 255} {
			wantPassedOver(t, fmt.Sprint("a beginning ", n), b[:n], 64)
			wantPassedOver(t, fmt.Sprint("an end ", n), b[256-n:], 64)
		}
		for _, n := range []int{1, 64, 256} {
			wantPassedOver(t, fmt.Sprint("more ", n), append(bytes.Clone(b), make([]byte, n)...), 64)
		}
		wantPassedOver(t, "what it bears", plainPut(h), 64)
	}
}

// P6.3: a copy whose page does not agree with its epoch, though it is laid for the place where it is.
func TestChooseOfAPageThatIsNotItsEpochs(t *testing.T) {
	for _, epoch := range epochs {
		h := plainHead(epoch, 64, 7)
		wrong := laid(1, uint16(1-epoch&1), epoch, plainPut(h))
		_, e := frame.Want(wrong, int(1-epoch&1), api.KindHead)
		wantErr(t, "the frame is right", e, api.OK)
		wantPassedOver(t, fmt.Sprint("epoch ", epoch), wrong, 64)
	}
}

// P6.3: a copy that is laid at another page, among them pages that are its own but for the lowest bit.
func TestChooseOfAnotherPage(t *testing.T) {
	for _, epoch := range []uint64{8, 9, 0, 1<<64 - 1} {
		h := plainHead(epoch, 64, 7)
		for _, number := range []uint16{2, 3, 4, 5, 256, 257, 2046, 2047, 2048, 2049, 65534, 65535} {
			wantPassedOver(t, fmt.Sprint("page ", number), laid(1, number, epoch, plainPut(h)), 64)
		}
	}
	even, odd := plainLay(plainHead(8, 64)), plainLay(plainHead(9, 64))
	wantNoChoice(t, "the other way round", 64, odd, even)
	wantNoChoice(t, "an odd one first", 64, odd)
	wantNoChoice(t, "an even one second", 64, nil, even)
}

// P6.3: a copy of another kind, or of none.
func TestChooseOfAnotherKind(t *testing.T) {
	for _, epoch := range []uint64{8, 9} {
		for kind := range 256 {
			if kind != api.KindHead {
				wantPassedOver(t, fmt.Sprint("kind ", kind), laid(byte(kind), uint16(epoch&1), epoch, plainPut(plainHead(epoch, 64))), 64)
			}
		}
	}
}

// P6.3: a copy whose frame is right, and which bears no head.
func TestChooseOfWhatIsNoHead(t *testing.T) {
	for _, epoch := range []uint64{8, 9} {
		for _, bears := range [][]byte{nil, {0, 64}, {0, 64, 1, 0, 1}, {0, 64, 1, 0, 64}, {0, 64, 2, 0, 2, 0, 3}, {64, 0, 1, 0, 2}, append(plainPut(plainHead(epoch, 64))[:239], 1), run(240, 1)} {
			wantPassedOver(t, fmt.Sprint("bears ", bears), laid(1, uint16(epoch&1), epoch, bears), 64)
		}
	}
}

// P6.3: a copy whose Pages are others than those asked for.
func TestChooseOfAnotherSize(t *testing.T) {
	for _, epoch := range []uint64{8, 9} {
		for _, pages := range sizes {
			b := plainLay(plainHead(epoch, pages))
			for _, other := range append(append([]int{}, sizes...), badSizes...) {
				if other != pages {
					wantNoChoice(t, fmt.Sprint(pages, " not ", other), other, b, b)
				}
			}
			for _, far := range []int{1 << 16, 1 << 32, -1 << 16, math.MinInt} {
				wantNoChoice(t, "far off", pages+far, b, b)
			}
		}
	}
	newer := plainLay(plainHead(9, 65))
	wantChoice(t, "the newer one has another size", plainHead(8, 64), 0, plainLay(plainHead(8, 64)), newer)
	wantChoice(t, "the older one has another size", plainHead(9, 65), 1, plainLay(plainHead(8, 64)), newer)
}

// P6.3: a copy with one byte changed, at each place.
func TestChooseOfOneByteChanged(t *testing.T) {
	for _, h := range []api.Head{plainHead(8, 64, 7), plainHead(9, 2048, run(32, 1)...)} {
		for at := range api.PageSize {
			for _, c := range []byte{1, 2, 16, 128, 255} {
				b := plainLay(h)
				b[at] ^= c
				wantPassedOver(t, fmt.Sprint("changed at ", at, " by ", c), b, h.Pages)
			}
		}
	}
}

// aCopy draws a head's page of a size near 64, right or wrong in one of several ways.
func (r *draws) aCopy() []byte {
	h := r.head(63 + r.below(3))
	h.Epoch = uint64(r.below(6))
	b := plainLay(h)
	switch r.below(12) {
	case 0:
		return nil
	case 1:
		return b[:r.below(257)]
	case 2:
		b[r.below(256)] ^= byte(r.below(256))
	case 3:
		return laid(byte(r.below(6)), uint16(h.Epoch%2), h.Epoch, plainPut(h))
	case 4:
		return laid(1, uint16(r.below(3)), h.Epoch, plainPut(h))
	case 5:
		bears := plainPut(h)
		bears[r.below(10)] ^= byte(1 << r.below(8))
		return laid(1, uint16(h.Epoch%2), h.Epoch, bears)
	}
	return b
}

// P6.3: copies drawn right and wrong: Choose tells what the chapter's words tell.
func TestChooseAsTheWords(t *testing.T) {
	r := draws(4)
	met := map[string]int{}
	for range 30_000 {
		copies := make([][]byte, r.below(5))
		for i := range copies {
			copies[i] = r.aCopy()
		}
		pages := 63 + r.below(3)
		want, at, e := plainChoose(pages, copies)
		if e == api.OK {
			wantChoice(t, "drawn", want, at, copies...)
		} else {
			wantNoChoice(t, "drawn", pages, copies...)
		}
		met[fmt.Sprint(e == api.OK, at)]++
	}
	for _, sort := range []string{"false 0", "true 0", "true 1"} {
		if met[sort] < 1000 {
			t.Error("the rule draws too few of one sort", met)
		}
	}
}

// P6.3: the number that is told is that of the copy, and of its epoch's page.
func TestTheNumberThatIsTold(t *testing.T) {
	for epoch := range uint64(50) {
		copies := make([][]byte, 2)
		h := plainHead(epoch, 64)
		copies[head.Page(epoch)] = plainLay(h)
		wantChoice(t, "one", h, int(epoch%2), copies...)
		if epoch > 0 {
			copies[head.Page(epoch-1)] = plainLay(plainHead(epoch-1, 64))
			wantChoice(t, "two", h, int(epoch%2), copies...)
		}
	}
}
