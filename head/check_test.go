package head_test

import (
	"fmt"
	"testing"

	"incipit/api"
	"incipit/head"
)

// P6.1: heads of each number of pages that may be.
func TestCheckOfPagesThatMayBe(t *testing.T) {
	for _, pages := range sizes {
		wantMayBe(t, fmt.Sprint("pages ", pages), plainHead(9, pages, 7))
	}
	for pages := -3; pages < api.MaxPages+3; pages++ {
		h := plainHead(9, pages)
		want := api.OK
		if pages < api.MinPages || pages > api.MaxPages {
			want = api.ErrHead
		}
		wantErr(t, fmt.Sprint("pages ", pages), head.Check(h), want)
	}
}

// P6.1: numbers of pages that may not be, near and far, with any number of maps.
func TestCheckOfPagesThatMayNotBe(t *testing.T) {
	for _, pages := range badSizes {
		for n := range 5 {
			wantMayNotBe(t, fmt.Sprint("pages ", pages, " maps ", n), api.Head{Epoch: 9, Pages: pages, Maps: []int{2, 3, 4, 5}[:n]})
		}
		wantMayNotBe(t, fmt.Sprint("pages ", pages), api.Head{Pages: pages})
	}
	wantMayNotBe(t, "the zero head", api.Head{})
}

// mapsFrom2 is n maps, one behind the other.
func mapsFrom2(n int) []int {
	maps := make([]int, n)
	for i := range maps {
		maps[i] = 2 + i
	}
	return maps
}

// P6.1: one map up to 1024 pages, else two, and no other number of them.
func TestCheckOfHowManyMaps(t *testing.T) {
	for _, pages := range sizes {
		for _, n := range []int{0, 1, 2, 3, 4, 5, 6, 255, 256, 257, 258} {
			h := api.Head{Epoch: 9, Pages: pages, Maps: mapsFrom2(n), User: []byte{7}}
			what := fmt.Sprint("pages ", pages, " maps ", n)
			if n == mapsOf(pages) {
				wantMayBe(t, what, h)
			} else {
				wantMayNotBe(t, what, h)
			}
		}
		wantMayNotBe(t, "nil", api.Head{Epoch: 9, Pages: pages})
	}
}

// wantMapAt asks whether a head with a map at m may be, whichever of its maps that is.
func wantMapAt(t *testing.T, pages, m int, may bool) {
	t.Helper()
	for i := range mapsOf(pages) {
		h := api.Head{Epoch: 9, Pages: pages, Maps: []int{4, 5}[:mapsOf(pages)]}
		h.Maps[i] = m
		what := fmt.Sprint("pages ", pages, " map ", i, " at ", m)
		if may {
			wantMayBe(t, what, h)
		} else {
			wantMayNotBe(t, what, h)
		}
	}
}

// P6.1: a map stands behind the heads' pages, and below Pages.
func TestCheckOfWhereMapsStand(t *testing.T) {
	for _, pages := range sizes {
		for _, m := range []int{2, 3, 6, pages - 2, pages - 1} {
			wantMapAt(t, pages, m, true)
		}
		for _, m := range append([]int{-1, 0, 1, pages, pages + 1, 65535}, farOff...) {
			wantMapAt(t, pages, m, false)
		}
	}
	wantMapAt(t, 64, 1024, false)
	wantMapAt(t, 64, 2047, false)
	wantMapAt(t, 1025, 2047, false)
}

// P6.1: no two maps are alike, and they need not rise.
func TestCheckOfTwoMaps(t *testing.T) {
	for _, pages := range []int{1025, 2047, 2048} {
		for _, m := range []int{2, 3, 255, 256, 1023, 1024, pages - 1} {
			wantMayNotBe(t, "alike", api.Head{Epoch: 9, Pages: pages, Maps: []int{m, m}})
		}
		for _, maps := range [][]int{{2, 3}, {3, 2}, {pages - 1, 2}, {2, pages - 1}, {pages - 1, pages - 2}, {2, 258}, {258, 2}, {513, 258}} {
			wantMayBe(t, "two", api.Head{Epoch: 9, Pages: pages, Maps: maps})
		}
	}
	for _, pages := range []int{8, 1024} {
		wantMayNotBe(t, "one more that is alike", api.Head{Epoch: 9, Pages: pages, Maps: []int{2, 2}})
	}
}

// P6.1: User has at most MaxUser bytes, noughts or not.
func TestCheckOfUser(t *testing.T) {
	for _, pages := range []int{8, 64, 1024, 1025, 2048} {
		for _, n := range lengths {
			wantMayBe(t, fmt.Sprint("user ", n), plainHead(9, pages, run(n, 1)...))
			wantMayBe(t, fmt.Sprint("noughts ", n), plainHead(9, pages, make([]byte, n)...))
		}
		for _, n := range badLongs {
			wantMayNotBe(t, fmt.Sprint("user ", n), plainHead(9, pages, run(n, 1)...))
			wantMayNotBe(t, fmt.Sprint("noughts ", n), plainHead(9, pages, make([]byte, n)...))
		}
		wantMayBe(t, "nil", plainHead(9, pages))
	}
}

// P6.1: a head may be of any epoch, and of none, if something else is wrong.
func TestCheckOfEpochs(t *testing.T) {
	for _, epoch := range epochs {
		for _, pages := range []int{8, 1024, 1025, 2048} {
			wantMayBe(t, fmt.Sprint("epoch ", epoch), plainHead(epoch, pages, 1, 2, 3))
		}
		wantMayNotBe(t, "pages", plainHead(epoch, 7))
		wantMayNotBe(t, "maps", api.Head{Epoch: epoch, Pages: 8})
		wantMayNotBe(t, "user", plainHead(epoch, 8, make([]byte, 33)...))
	}
}

// P6.1: heads drawn at the edges may be just where the chapter's words say so.
func TestCheckAsTheWords(t *testing.T) {
	r := draws(1)
	places := []int{-1, 0, 1, 2, 3, 7, 8, 1023, 1024, 1025, 2047, 2048}
	met := [2]int{}
	for range 50_000 {
		h := api.Head{Epoch: r.epoch(), Pages: []int{7, 8, 9, 1023, 1024, 1025, 2047, 2048, 2049}[r.below(9)]}
		for range r.below(4) {
			h.Maps = append(h.Maps, places[r.below(len(places))])
		}
		h.User = make([]byte, []int{0, 5, 31, 32, 33}[r.below(5)])
		if plainMayBe(h) {
			met[1]++
			wantMayBe(t, "drawn", h)
		} else {
			met[0]++
			wantMayNotBe(t, "drawn", h)
		}
	}
	if met[0] < 1000 || met[1] < 1000 {
		t.Error("the rule draws too few of one sort", met)
	}
}
