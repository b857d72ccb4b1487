package pager_test

import (
	"fmt"
	"testing"

	"incipit/api"
)

// lives are how many pages, what a cache holds, and how many acts.
var lives = [][3]int{{8, 2, 300}, {8, 64, 300}, {9, 3, 300}, {12, 2, 400}, {12, 4, 400}, {20, 2, 500}, {20, 7, 500}, {33, 2, 600}, {64, 5, 600}, {64, 64, 600}, {100, 16, 600}, {1023, 2, 60}, {1024, 9, 60}, {1025, 2, 60}, {1026, 64, 60}, {2048, 3, 60}}

// P9.1 to P9.5: many acts over many numbers of pages and sizes of a cache are answered as by a plain list that says of each page what it is and what it bears; a call that answers an error has changed nothing that is told.
func TestLivesAsThePlainOne(t *testing.T) {
	for i, l := range lives {
		for seed := range 6 {
			r := draws(i*100 + seed)
			b := formatted(t, l[0], l[1])
			b.what = fmt.Sprintf("%d pages, cache %d, seed %d", l[0], l[1], seed)
			for n := range l[2] {
				call := b.act(&r)
				b.told(call)
				if n%50 == 49 {
					b.readAll(call)
				}
			}
			b.readAll("all")
		}
	}
}

// P9.1, P9.4: what a life left, committed, is opened as it was; what was not committed is not there.
func TestLivesThatAreOpenedAgain(t *testing.T) {
	for i, l := range lives {
		r := draws(i + 4000)
		b := formatted(t, l[0], l[1])
		for range 5 {
			for range l[2] / 10 {
				b.act(&r)
			}
			if b.commit(r.bytes(r.below(33))) == api.ErrFull {
				b.ok(b.commit(nil))
			}
			b = opened(t, b.d, 2+r.below(63))
			b.readAll("Open")
		}
	}
}

// Each byte is an act, or what one needs: the same as the plain one, whatever they are.
func FuzzLife(f *testing.F) {
	f.Add(uint8(8), uint8(2), []byte{0, 3, 1, 9, 200, 7, 255, 31, 4})
	f.Add(uint8(40), uint8(5), []byte("new, put, free, commit, abort and all of it again"))
	f.Fuzz(func(t *testing.T, pages, size uint8, acts []byte) {
		b := formatted(t, 8+int(pages)%64, 2+int(size)%63)
		for i, a := range acts[:min(len(acts), 200)] {
			r := draws(uint32(a)*7919 + uint32(i)*31)
			b.told(b.act(&r))
		}
		b.readAll("all")
		if b.commit(nil) == api.OK {
			opened(t, b.d, 2).readAll("Open")
		}
	})
}
