package head_test

import (
	"bytes"
	"fmt"
	"testing"

	"incipit/api"
	"incipit/head"
)

// edgeHeads are heads with one map and with two, at both ends of what may be, with no User, a short one and a full one.
func edgeHeads() []api.Head {
	var out []api.Head
	for _, n := range []int{0, 1, 3, api.MaxUser} {
		out = append(out, plainHead(9, 8, run(n, 1)...), plainHead(0, 1024, run(n, 2)...), plainHead(1<<64-1, 1025, run(n, 3)...), plainHead(8, 2048, make([]byte, n)...))
	}
	return out
}

// P6.1: Get of what a page bears is the head, of the epoch that is asked for.
func TestGet(t *testing.T) {
	for _, h := range edgeHeads() {
		for _, epoch := range epochs {
			h.Epoch = epoch
			wantGet(t, fmt.Sprint(h), plainPut(h), h)
		}
	}
}

// P6.1: fewer or more bytes than a page bears are no head, also where all of them that are there are right.
func TestGetOfAnotherLength(t *testing.T) {
	wantNoGet(t, "nil", nil)
	wantNoGet(t, "empty", []byte{})
	for _, h := range edgeHeads() {
		b := plainPut(h)
		for n := range api.Payload {
			wantNoGet(t, fmt.Sprint("a beginning ", n), b[:n])
			wantNoGet(t, fmt.Sprint("an end ", n), b[api.Payload-n:])
		}
		for _, n := range []int{1, 2, 12, 16, 240, 1 << 16} {
			wantNoGet(t, fmt.Sprint("more ", n), append(bytes.Clone(b), make([]byte, n)...))
			wantNoGet(t, fmt.Sprint("others behind it ", n), append(bytes.Clone(b), run(n, 1)...))
			wantNoGet(t, fmt.Sprint("noughts ahead of it ", n), append(make([]byte, n), b...))
		}
		wantNoGet(t, "a page", plainLay(h))
	}
	for n := range 300 {
		wantNoGet(t, fmt.Sprint("noughts ", n), make([]byte, n))
		wantNoGet(t, fmt.Sprint("all ones ", n), bytes.Repeat([]byte{255}, n))
		wantNoGet(t, fmt.Sprint("ones ", n), bytes.Repeat([]byte{1}, n))
	}
}

// P6.1: each byte changed to each other one: the head whose Put it is, or none. Where it is one of the noughts there is none.
func TestGetOfOneByteChanged(t *testing.T) {
	for i, h := range edgeHeads() {
		end := len(bare(h))
		met := map[api.Errno]int{}
		for at := range api.Payload {
			what := fmt.Sprint("head ", i, " changed at ", at)
			for c := 1; c < 256; c++ {
				if at > end && c&(c-1) != 0 && c != 255 {
					continue // of the noughts each bit, and all of them, are enough
				}
				b := plainPut(h)
				b[at] ^= byte(c)
				e := wantGetAsTheWords(t, what, h.Epoch, b)
				met[e]++
				if at >= end {
					wantErr(t, what, e, api.ErrHead)
				}
				wantPutOfGet(t, what, h.Epoch, b)
			}
		}
		if met[api.OK] == 0 || met[api.ErrHead] == 0 {
			t.Error("one sort was not met", met)
		}
	}
}

// wantPutOfGet asks that what Get takes is Put of what it answers.
func wantPutOfGet(t *testing.T, what string, epoch uint64, b []byte) {
	t.Helper()
	h, e := head.Get(epoch, b)
	if e != api.OK {
		return
	}
	again, e := head.Put(h)
	wantErr(t, what+": Put of Get", e, api.OK)
	wantBytes(t, what+": Put of Get", again, b)
}

// P6.1: each number of maps that a byte can say, at each of the sizes: just that which the pages need is taken.
func TestGetOfHowManyMaps(t *testing.T) {
	for _, pages := range sizes {
		for n := range 256 {
			h := api.Head{Epoch: 9, Pages: pages, Maps: mapsFrom2(n)}
			b := bare(h)
			if len(b) > api.Payload {
				b = b[:api.Payload] // as many as have room
			}
			what := fmt.Sprint("pages ", pages, " maps ", n)
			if n == mapsOf(pages) {
				wantGet(t, what, padded(b, api.Payload), h)
			} else {
				wantNoGet(t, what, padded(b, api.Payload))
			}
		}
	}
}

// P6.1: each number of User's bytes that a byte can say: at most MaxUser are taken, also where as many stand behind it.
func TestGetOfHowManyBytesOfUser(t *testing.T) {
	for _, pages := range []int{8, 1024, 1025, 2048} {
		for n := range 256 {
			for _, user := range [][]byte{make([]byte, n), run(n, 4)} {
				h := plainHead(9, pages, user...)
				b := bare(h)
				b = padded(b[:min(len(b), api.Payload)], api.Payload)
				what := fmt.Sprint("pages ", pages, " user ", n)
				if n <= api.MaxUser {
					wantGet(t, what, b, h)
				} else {
					wantNoGet(t, what, b)
				}
			}
		}
	}
}

// P6.1: bytes in the form, of heads that may not be.
func TestGetOfHeadsThatMayNotBe(t *testing.T) {
	rows := []api.Head{{}, {Pages: 7, Maps: []int{2}}, {Pages: 2049, Maps: []int{2, 3}}, {Pages: 65535, Maps: []int{2, 3}}, {Pages: 64}, {Pages: 64, Maps: []int{2, 3}}, {Pages: 1024, Maps: []int{2, 3}}, {Pages: 1025, Maps: []int{2}}, {Pages: 2048, Maps: []int{2, 3, 4}}, {Pages: 64, Maps: []int{2}, User: make([]byte, 33)}}
	for _, pages := range []int{8, 64, 1024} {
		for _, m := range []int{0, 1, pages, pages + 1, 65535} {
			rows = append(rows, api.Head{Pages: pages, Maps: []int{m}})
		}
	}
	for _, pages := range []int{1025, 2048} {
		for _, m := range []int{0, 1, 5, pages, pages + 1, 65535} { // 5 is alike
			rows = append(rows, api.Head{Pages: pages, Maps: []int{m, 5}}, api.Head{Pages: pages, Maps: []int{5, m}})
		}
	}
	for _, h := range rows {
		wantNoGet(t, fmt.Sprint(h), padded(bare(h), api.Payload))
	}
}

// P6.1: numbers with their lowest byte first are none.
func TestGetOfNumbersTurnedRound(t *testing.T) {
	wantNoGet(t, "pages", padded([]byte{64, 0, 1, 0, 2, 1, 7}, api.Payload))
	wantNoGet(t, "a map", padded([]byte{0, 64, 1, 2, 0, 1, 7}, api.Payload))
}

// P6.1: bytes drawn near the form are taken just where the chapter's words take them.
func TestGetAsTheWords(t *testing.T) {
	r := draws(3)
	met := map[api.Errno]int{}
	for range 50_000 {
		h := r.head(0)
		b := plainPut(h)
		for range r.below(3) {
			switch at := r.below(len(bare(h)) + 2); r.below(3) {
			case 0:
				b[at] = byte(r.below(256))
			case 1:
				b[at] += byte(r.below(3)) - 1
			case 2:
				b[r.below(api.Payload)] ^= 1 << r.below(8)
			}
		}
		met[wantGetAsTheWords(t, "drawn", h.Epoch, b)]++
		wantPutOfGet(t, "drawn", h.Epoch, b)
	}
	if met[api.OK] < 1000 || met[api.ErrHead] < 1000 {
		t.Error("the rule draws too few of one sort", met)
	}
}
