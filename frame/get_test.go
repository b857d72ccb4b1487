package frame_test

import (
	"bytes"
	"fmt"
	"math"
	"testing"

	"incipit/api"
	"incipit/frame"
)

// P4.2: a page that is whole, and where it belongs: its frame, with Data of Payload bytes.
func TestGet(t *testing.T) {
	for kind := 1; kind <= 4; kind++ {
		for _, page := range pages {
			for _, epoch := range epochs {
				data := run(api.Payload, uint32(page+kind))
				b := laid(byte(kind), 0, uint16(page), epoch, data)
				wantGet(t, fmt.Sprint("Get ", kind, page, epoch), b, page, api.Frame{Kind: kind, Page: page, Epoch: epoch, Data: data})
			}
		}
	}
}

// P4.2: Data has Payload bytes also where they are noughts, all or at the end.
func TestGetAnswersAllOfThePayload(t *testing.T) {
	for _, n := range lengths {
		b, e := frame.Put(api.Frame{Kind: 3, Page: 1, Data: bytes.Repeat([]byte{1}, n)})
		wantErr(t, "Put", e, api.OK)
		want := append(bytes.Repeat([]byte{1}, n), make([]byte, api.Payload-n)...)
		wantGet(t, "Data", b, 1, api.Frame{Kind: 3, Page: 1, Data: want})
	}
}

// P4.2: fewer or more bytes than a page has are ErrArg, whatever else is wrong with them.
func TestGetOfAnotherLength(t *testing.T) {
	whole := laid(1, 0, 2, 3, []byte{4})
	for _, page := range append([]int{0, 2}, badPages...) {
		wantNoGet(t, "nil", nil, page, api.ErrArg)
		wantNoGet(t, "empty", []byte{}, page, api.ErrArg)
		for _, n := range []int{1, 3, 4, 5, 16, 252, 254, 255} {
			wantNoGet(t, fmt.Sprint("a beginning ", n), whole[:n], page, api.ErrArg)
			wantNoGet(t, fmt.Sprint("an end ", n), whole[256-n:], page, api.ErrArg)
			wantNoGet(t, fmt.Sprint("noughts ", n), make([]byte, n), page, api.ErrArg)
		}
		for _, n := range []int{1, 2, 256} {
			longer := append(bytes.Clone(whole[4:]), make([]byte, n)...)
			wantNoGet(t, "more", append(bytes.Clone(whole), make([]byte, n)...), page, api.ErrArg)
			wantNoGet(t, "more, with a right sum", sealed(longer), page, api.ErrArg)
		}
		wantNoGet(t, "less, with a right sum", sealed(whole[4:255]), page, api.ErrArg)
	}
}

// P4.2: another sum is ErrSum, whatever else is wrong.
func TestGetOfAnotherSum(t *testing.T) {
	for _, kind := range []byte{0, 1, 3, 5, 255} {
		for _, nought := range []byte{0, 1} {
			for _, number := range []uint16{0, 9, 2048, 65535} {
				for _, page := range []int{0, 9, -1, 2048, 65535} {
					b := laid(kind, nought, number, 1, []byte{2})
					b[0] ^= 1
					wantNoGet(t, "the sum", b, page, api.ErrSum)
					b[0] ^= 1
					b[255] ^= 1
					wantNoGet(t, "the end", b, page, api.ErrSum)
				}
			}
		}
	}
	turned := laid(1, 0, 0, 1, []byte{2})
	turned[0], turned[1], turned[2], turned[3] = turned[3], turned[2], turned[1], turned[0]
	wantNoGet(t, "turned round", turned, 0, api.ErrSum)
}

// P4.2: a right sum, and no kind, or another byte than 0 behind it: ErrKind, also where the page is another one, or none.
func TestGetOfNoKind(t *testing.T) {
	for _, page := range []int{7, 8, -1, 2047, 2048, 65535} {
		for _, number := range []uint16{7, 2048, 65535} {
			for kind := range 256 {
				if kind < 1 || kind > 4 {
					wantNoGet(t, fmt.Sprint("kind ", kind), laid(byte(kind), 0, number, 1, nil), page, api.ErrKind)
				}
			}
			for nought := 1; nought < 256; nought++ {
				wantNoGet(t, fmt.Sprint("behind the kind ", nought), laid(byte(1+nought%4), byte(nought), number, 1, nil), page, api.ErrKind)
			}
			wantNoGet(t, "both", laid(5, 1, number, 1, nil), page, api.ErrKind)
		}
	}
}

// P4.2: a number that is not page, or not below MaxPages, also where both are that number.
func TestGetOfAnotherPage(t *testing.T) {
	for _, page := range append(append([]int{}, pages...), badPages...) {
		for _, other := range pages {
			if other != page {
				wantNoGet(t, fmt.Sprint("page ", other, " at ", page), laid(2, 0, uint16(other), 1, nil), page, api.ErrPage)
			}
		}
	}
	for _, number := range []uint16{2048, 2049, 4095, 4096, 32768, 65535} {
		for _, page := range []int{int(number), int(number) - 2048, int(number) + 65536, int(number) - 65536, 0, 2047} {
			wantNoGet(t, fmt.Sprint("number ", number, " at ", page), laid(2, 0, number, 1, nil), page, api.ErrPage)
		}
	}
}

// P4.2: numbers that are the page's but for what two bytes, or a machine's half word, leave out.
func TestGetAtPagesFarOff(t *testing.T) {
	for _, number := range []int{0, 1, 5, 2047} {
		b := laid(2, 0, uint16(number), 1, nil)
		for _, far := range []int{1 << 8, 1 << 11, 1 << 16, 1 << 31, 1 << 32, 1 << 48, math.MinInt, -1 << 16, -1 << 32} {
			wantNoGet(t, fmt.Sprint("far off ", far), b, number+far, api.ErrPage)
		}
		wantNoGet(t, "turned over", b, ^number, api.ErrPage)
	}
}

// wantWant asks what Want answers to a page of kind.
func wantWant(t *testing.T, b []byte, kind int, kinds []int, want api.Errno) {
	t.Helper()
	what := fmt.Sprint("Want of kind ", kind, " among ", kinds)
	f, e := frame.Want(b, 6, kinds...)
	wantErr(t, what, e, want)
	if want == api.OK {
		wantFrame(t, what, f, api.Frame{Kind: kind, Page: 6, Epoch: 8, Data: run(api.Payload, 4)})
	} else {
		wantNone(t, what, f)
	}
}

// P4.2: Want with no kind, with one, with several, with kinds that are none.
func TestWant(t *testing.T) {
	for kind := 1; kind <= 4; kind++ {
		b := laid(byte(kind), 0, 6, 8, run(api.Payload, 4))
		other, third := kind%4+1, (kind+1)%4+1
		for _, kinds := range [][]int{nil, {}, {other}, {other, third}, {third, third, third}, {0}, {-1, 5, 6}, {kind + 256, kind - 256, -kind, kind + 1<<32}, {math.MinInt, math.MaxInt}} {
			wantWant(t, b, kind, kinds, api.ErrKind)
		}
		for _, kinds := range [][]int{{kind}, {kind, other}, {other, kind}, {other, third, kind}, {kind, kind}, {0, kind, 5}, {-1, 256, kind}, {1, 2, 3, 4}, {4, 3, 2, 1}} {
			wantWant(t, b, kind, kinds, api.OK)
		}
	}
}

// P4.2: Get's errors stand ahead of Want's: no kind that is wanted helps, and none that is not stands in for them.
func TestGetsErrorsStandAhead(t *testing.T) {
	whole := laid(1, 0, 6, 8, nil)
	broken := bytes.Clone(whole)
	broken[100] ^= 1
	wantNoGet(t, "length", whole[1:], 6, api.ErrArg)
	wantNoGet(t, "sum", broken, 6, api.ErrSum)
	wantNoGet(t, "kind", laid(5, 0, 6, 8, nil), 6, api.ErrKind)
	wantNoGet(t, "kind 0", laid(0, 0, 6, 8, nil), 6, api.ErrKind)
	wantNoGet(t, "page", whole, 7, api.ErrPage)
	wantNoGet(t, "page far off", laid(1, 0, 2048, 8, nil), 2048, api.ErrPage)
}
