package head_test

import (
	"bytes"
	"math"
	"slices"
	"testing"

	"incipit/api"
	"incipit/head"
)

// wantSame asks in both directions, and of each head with itself.
func wantSame(t *testing.T, what string, a, b api.Head, want bool) {
	t.Helper()
	if head.Same(a, b) != want || head.Same(b, a) != want {
		t.Errorf("%s: Same of %v and %v is not %v", what, a, b, want)
	}
	if !head.Same(a, a) || !head.Same(b, b) {
		t.Errorf("%s: a head is not the same as itself", what)
	}
}

// twin is a head that is the same, in memory of its own.
func twin(h api.Head) api.Head {
	h.Maps, h.User = slices.Clone(h.Maps), bytes.Clone(h.User)
	return h
}

// P6.1: heads that differ in their Epoch alone, or in their Pages alone.
func TestSameOfOtherNumbers(t *testing.T) {
	h := api.Head{Epoch: 1<<40 + 3, Pages: 2048, Maps: []int{2, 258}, User: []byte{7, 8, 9}}
	wantSame(t, "twins", h, twin(h), true)
	for _, epoch := range []uint64{0, 3, 1<<40 + 2, 1<<40 + 4, 1<<40 + 3 + 1<<63, 1<<40 + 3 + 1<<32, math.MaxUint64} {
		g := twin(h)
		g.Epoch = epoch
		wantSame(t, "epoch", h, g, false)
	}
	for _, pages := range []int{2047, 2046, 0, 8, -2048, 2048 + 1<<16, 2048 + 1<<32, math.MinInt} {
		g := twin(h)
		g.Pages = pages
		wantSame(t, "pages", h, g, false)
	}
}

// P6.1: heads that differ in one of their Maps alone, in how many there are, or in their order.
func TestSameOfOtherMaps(t *testing.T) {
	h := api.Head{Epoch: 9, Pages: 2048, Maps: []int{2, 258}, User: []byte{7}}
	for _, maps := range [][]int{nil, {}, {2}, {258}, {2, 257}, {3, 258}, {258, 2}, {2, 2}, {258, 258}, {2, 258, 258}, {2, 258, 0}, {2, 258, 3}, {0, 2, 258}, {2 + 1<<16, 258}, {2, 258 + 1<<32}} {
		g := twin(h)
		g.Maps = maps
		wantSame(t, "maps", h, g, false)
	}
	one := plainHead(9, 64, 7)
	for _, maps := range [][]int{nil, {3}, {0}, {-2}, {2, 2}, {2, 0}} {
		g := twin(one)
		g.Maps = maps
		wantSame(t, "one map", one, g, false)
	}
}

// P6.1: heads that differ in one byte of User alone, at each place, or in how many there are: noughts at its end count.
func TestSameOfOtherUsers(t *testing.T) {
	for n := range api.MaxUser + 1 {
		h := plainHead(9, 64, run(n, 2)...)
		wantSame(t, "twins", h, twin(h), true)
		for at := range n {
			for _, c := range []byte{1, 128, 255} {
				g := twin(h)
				g.User[at] ^= c
				wantSame(t, "a byte", h, g, false)
			}
		}
		for _, more := range [][]byte{{0}, {0, 0}, {1}, {255, 0}} {
			g := twin(h)
			g.User = append(g.User, more...)
			wantSame(t, "more", h, g, false)
		}
		if n > 0 {
			g := twin(h)
			g.User = g.User[1:]
			wantSame(t, "without the first", h, g, false)
		}
	}
	wantSame(t, "where one ends", plainHead(9, 64, 1), plainHead(9, 64), false)
	wantSame(t, "noughts", plainHead(9, 64, 0, 0), plainHead(9, 64, 0), false)
}

// P6.1, R4: nil and empty Maps and Users are the same.
func TestSameOfNilAndEmpty(t *testing.T) {
	nothing := api.Head{Epoch: 9, Pages: 64}
	for _, maps := range [][]int{nil, {}} {
		for _, user := range [][]byte{nil, {}} {
			wantSame(t, "nothing", nothing, api.Head{Epoch: 9, Pages: 64, Maps: maps, User: user}, true)
			wantSame(t, "zero", api.Head{}, api.Head{Maps: maps, User: user}, true)
		}
	}
	wantSame(t, "a user", plainHead(9, 64), api.Head{Epoch: 9, Pages: 64, Maps: []int{2}, User: []byte{}}, true)
	wantSame(t, "a map", api.Head{Pages: 64, Maps: []int{}}, api.Head{Pages: 64, Maps: []int{0}}, false)
	wantSame(t, "a byte", api.Head{Pages: 64, User: []byte{}}, api.Head{Pages: 64, User: []byte{0}}, false)
}

// P6.1: heads that may not be are held against each other by the same words.
func TestSameOfHeadsThatMayNotBe(t *testing.T) {
	for _, pages := range badSizes {
		for _, n := range []int{0, 1, 3, 300} {
			h := api.Head{Epoch: 9, Pages: pages, Maps: mapsFrom2(n), User: run(300, 3)}
			wantSame(t, "twins", h, twin(h), true)
			g := twin(h)
			g.User[299] ^= 1
			wantSame(t, "the last byte", h, g, false)
			g = twin(h)
			g.Maps = append(g.Maps, 2)
			wantSame(t, "one map more", h, g, false)
			g = twin(h)
			g.Pages++
			wantSame(t, "pages", h, g, false)
		}
	}
}

// P6.1: pairs of heads drawn near each other are the same just where the chapter's words say so.
func TestSameAsTheWords(t *testing.T) {
	r := draws(2)
	met := [2]int{}
	near := func() api.Head {
		h := api.Head{Epoch: uint64(r.below(2)), Pages: r.below(2)}
		for range r.below(3) {
			h.Maps = append(h.Maps, r.below(2))
		}
		for range r.below(3) {
			h.User = append(h.User, byte(r.below(2)))
		}
		return h
	}
	for range 50_000 {
		a, b := near(), near()
		want := plainSame(a, b)
		wantSame(t, "drawn", a, b, want)
		if want {
			met[1]++
		} else {
			met[0]++
		}
	}
	if met[0] < 100 || met[1] < 100 {
		t.Error("the rule draws too few of one sort", met)
	}
}
