package head_test

import (
	"bytes"
	"slices"
	"testing"

	"incipit/api"
	"incipit/head"
)

// within answers b with other bytes ahead and behind it in one piece of memory, and a copy of all of it.
func within(b []byte) (all, part, was []byte) {
	all = append(append(bytes.Repeat([]byte{7}, 8), b...), bytes.Repeat([]byte{8}, 300)...)
	return all, all[8 : 8+len(b)], bytes.Clone(all)
}

// mapsWithin does the same to Maps.
func mapsWithin(maps []int) (all, part, was []int) {
	all = append(append([]int{7, 7, 7}, maps...), slices.Repeat([]int{8}, 20)...)
	return all, all[3 : 3+len(maps)], slices.Clone(all)
}

// R3: Maps and User that are handed in are as they were, and so is what stands beside them in the same memory.
func TestHeadsThatAreHandedInStay(t *testing.T) {
	r := draws(9)
	heads := append(edgeHeads(), api.Head{Pages: 64, Maps: []int{5, 5, 3, 1}, User: run(40, 1)}, api.Head{Pages: 2048, Maps: []int{9, 2}, User: run(33, 1)})
	for range 100 {
		heads = append(heads, r.head(0))
	}
	for _, h := range heads {
		allMaps, maps, wereMaps := mapsWithin(h.Maps)
		allUser, user, wasUser := within(h.User)
		h.Maps, h.User = maps, user
		head.Check(h)
		head.Same(h, h)
		head.Same(h, plainHead(h.Epoch, h.Pages))
		head.Put(h)
		head.Lay(h)
		wantBytes(t, "User", allUser, wasUser)
		if !slices.Equal(allMaps, wereMaps) {
			t.Errorf("Maps were changed: %v, not %v", allMaps, wereMaps)
		}
	}
}

// R3: bytes that are handed to Get and Choose are as they were, and so is the list of copies.
func TestBytesThatAreHandedInStay(t *testing.T) {
	even, odd := plainHead(8, 64, 7), plainHead(9, 2048, run(32, 1)...)
	for _, b := range [][]byte{nil, {1, 2, 3}, plainPut(even), plainPut(odd), run(240, 2), plainLay(even), plainLay(odd), run(256, 3), run(300, 4)} {
		all, part, was := within(b)
		head.Get(9, part)
		for _, pages := range []int{64, 2048, 0} {
			copies := [][]byte{part, part, part}
			head.Choose(pages, copies...)
			head.Choose(pages, part)
			head.Choose(pages, plainLay(even), part)
			for _, c := range copies {
				wantBytes(t, "a copy", c, b)
			}
		}
		wantBytes(t, "bytes", all, was)
	}
	even.Epoch, odd = 8, plainHead(9, 64)
	copies := [][]byte{plainLay(even), plainLay(odd), plainLay(even)}
	wantChoice(t, "Choose", odd, 1, copies...)
	for i, want := range [][]byte{plainLay(even), plainLay(odd), plainLay(even)} {
		wantBytes(t, "the list of copies", copies[i], want)
	}
}

// turnAll turns each bit of b.
func turnAll(b []byte) {
	for i := range b {
		b[i] ^= 255
	}
}

// spoil changes all of a head's Maps and User, and what would stand behind them.
func spoil(h api.Head) {
	turnAll(h.User)
	for i := range h.Maps {
		h.Maps[i] = ^h.Maps[i]
	}
	_, _ = append(h.User, 1, 2, 3), append(h.Maps, 1, 2, 3)
}

// R3: bytes that Put and Lay answered, and the head that they are of, do not change each other.
func TestBytesThatAreAnsweredAreNobodysElse(t *testing.T) {
	for _, call := range []func(api.Head) ([]byte, api.Errno){head.Put, head.Lay} {
		for _, h := range edgeHeads() {
			kept := twin(h)
			got, e := call(h)
			wantErr(t, "the first", e, api.OK)
			again, e := call(h)
			wantErr(t, "the second", e, api.OK)
			want := bytes.Clone(got)
			spoil(h)
			wantBytes(t, "bytes behind a change of the head", got, want)
			spoil(h)
			turnAll(got)
			_ = append(got, 1, 2, 3)
			wantHead(t, "the head behind a change of the bytes", h, kept)
			wantBytes(t, "another one's bytes", again, want)
			later, e := call(h)
			wantErr(t, "a later one", e, api.OK)
			wantBytes(t, "a later one's bytes", later, want)
		}
	}
}

// wantOwnHead asks that a head which call answers of b shares nothing with b, or with another head of it.
func wantOwnHead(t *testing.T, b []byte, h api.Head, call func([]byte) api.Head) {
	t.Helper()
	was := bytes.Clone(b)
	got, again := call(b), call(b)
	wantHead(t, "the first", got, h)
	turnAll(b)
	wantHead(t, "a head behind a change of the bytes", got, h)
	turnAll(b)
	spoil(got)
	wantBytes(t, "the bytes behind a change of the head", b, was)
	wantHead(t, "another one", again, h)
	wantHead(t, "a later one", call(b), h)
}

// R3: heads that Get and Choose answered, and the bytes that they are of, do not change each other.
func TestHeadsThatAreAnsweredAreNobodysElse(t *testing.T) {
	for _, h := range edgeHeads() {
		wantOwnHead(t, plainPut(h), h, func(b []byte) api.Head { g, _ := head.Get(h.Epoch, b); return g })
		wantOwnHead(t, plainLay(h), h, func(b []byte) api.Head {
			copies := make([][]byte, 2)
			copies[h.Epoch%2] = b
			g, _, _ := head.Choose(h.Pages, copies...)
			return g
		})
	}
}

// R4: nil and empty are the same, of Maps, of User, of bytes, of copies.
func TestEmptyAndNilAreTheSame(t *testing.T) {
	for _, pages := range []int{64, 2048} {
		h := plainHead(9, pages)
		h.User = nil
		wantMayBe(t, "nil User", h)
		h.User = []byte{}
		wantMayBe(t, "empty User", h)
		h.Maps = nil
		wantMayNotBe(t, "nil Maps", h)
		h.Maps = []int{}
		wantMayNotBe(t, "empty Maps", h)
	}
	wantNoGet(t, "nil", nil)
	wantNoGet(t, "empty", []byte{})
	wantNoChoice(t, "nil", 64, [][]byte(nil)...)
	wantNoChoice(t, "empty", 64, [][]byte{}...)
}

// R6: the same calls answer the same, also when other calls stand between them.
func TestTheSameCallsAnswerTheSame(t *testing.T) {
	older, newer := plainHead(8, 64, 1), plainHead(9, 64, 2)
	for range 3 {
		wantMayBe(t, "older", older)
		wantGet(t, "newer", plainPut(newer), newer)
		wantChoice(t, "newer", newer, 1, plainLay(older), plainLay(newer))
		wantMayNotBe(t, "zero", api.Head{})
		wantNoGet(t, "noughts", make([]byte, api.Payload))
		wantNoChoice(t, "turned round", 64, plainLay(newer), plainLay(older))
		wantChoice(t, "older", older, 0, plainLay(older))
	}
}

// R1, THE BOUND: long Maps and Users, long bytes, and many copies are gone over once at most.
func TestLongThingsInTime(t *testing.T) {
	const n = 1 << 22
	long := api.Head{Epoch: 9, Pages: 64, Maps: mapsFrom2(n), User: make([]byte, n)}
	wantMayNotBe(t, "long", long)
	long.Pages = 2048
	wantMayNotBe(t, "long", long)
	other := long
	other.User = append(make([]byte, n-1), 1)
	wantSame(t, "long", long, other, false)
	wantNoGet(t, "long", make([]byte, n))
	wantNoChoice(t, "long", 64, make([]byte, n), make([]byte, n))
	copies := make([][]byte, n)
	for i := range copies {
		copies[i] = long.User
	}
	wantNoChoice(t, "many", 64, copies...)
}
