package cursor_test

import (
	"bytes"
	"fmt"
	"slices"
	"testing"

	"incipit/api"
	"incipit/cursor"
)

// P12.2: First and Last of each key that is there, and of what stands right ahead of it and right behind it; of the first one and the last one, too.
func TestFirstAndLast(t *testing.T) {
	t.Parallel()
	for _, b := range someTrees(t) {
		pairs := b.pairs()
		for i, p := range pairs {
			got, e := cursor.First(b.x, p.Key)
			wantPair(t, b.what+": First of a key", got, e, pairs[i:])
			got, e = cursor.First(b.x, append(bytes.Clone(p.Key), 0))
			wantPair(t, b.what+": First behind a key", got, e, pairs[i+1:])
			got, e = cursor.Last(b.x, append(bytes.Clone(p.Key), 0))
			wantPair(t, b.what+": Last ahead of what stands behind a key", got, e, pairs[i:])
			var ahead []api.Pair
			if i > 0 {
				ahead = pairs[i-1:]
			}
			got, e = cursor.Last(b.x, p.Key)
			wantPair(t, b.what+": Last of a key", got, e, ahead)
		}
		got, e := cursor.First(b.x, nil)
		wantPair(t, b.what+": First of nothing", got, e, pairs)
		got, e = cursor.Last(b.x, nil)
		wantNoPair(t, b.what+": Last of nothing", got, e, api.ErrNone)
		behind := bytes.Repeat([]byte{255}, 26)
		got, e = cursor.First(b.x, behind)
		wantNoPair(t, b.what+": First behind all", got, e, api.ErrNone)
		slices.Reverse(pairs)
		got, e = cursor.Last(b.x, behind)
		wantPair(t, b.what+": Last of all", got, e, pairs)
	}
}

// P12.2: Count of trees that grow and shrink, key by key.
func TestCount(t *testing.T) {
	for _, s := range sorts {
		b := empty(t, 400, 5)
		r := draws(8)
		for n, i := range r.order(120) {
			b.put(s.key(i), s.val(i))
			if cursor.Count(b.x) != n+1 {
				t.Fatalf("%s: Count is %d behind %d Puts", s.name, cursor.Count(b.x), n+1)
			}
		}
		for i := range 120 {
			b.put(s.key(i), nil) // it is there already
			b.delete(s.key(i))
			if cursor.Count(b.x) != 119-i {
				t.Fatalf("%s: Count is %d behind %d Deletes", s.name, cursor.Count(b.x), i+1)
			}
		}
	}
}

// THE BOUND: First and Last go down the way, and at most once again beside it; what is left behind the first pair has read no more than the way.
func TestHowManyPagesAreRead(t *testing.T) {
	for _, b := range someTrees(t) {
		height := b.height()
		read := func(call func()) int {
			hits, misses := b.p.Counts()
			call()
			h, m := b.p.Counts()
			return h + m - hits - misses
		}
		for _, key := range b.someAbout() {
			for what, call := range map[string]func(){
				"First": func() { cursor.First(b.x, key) },
				"Last":  func() { cursor.Last(b.x, key) },
				"From":  func() { listed(cursor.From(b.x, key), 1) },
			} {
				if n := read(call); n > 2*height {
					t.Fatalf("%s: %s(%q) reads %d pages, at height %d", b.what, what, key, n, height)
				}
			}
		}
		if n := read(func() { listed(cursor.All(b.x), 1) }); n != height {
			t.Fatalf("%s: All, left at once, reads %d pages, at height %d", b.what, n, height)
		}
		nodes := 0
		for range b.x.Nodes() {
			nodes++
		}
		for what, call := range map[string]func(){
			"All":   func() { listed(cursor.All(b.x), -1) },
			"Count": func() { cursor.Count(b.x) },
			"Check": func() { cursor.Check(b.x) },
		} {
			if n := read(call); n != nodes {
				t.Fatalf("%s: %s reads %d pages of %d", b.what, what, n, nodes)
			}
		}
	}
}

// P12.1, P12.2: leaves without pairs, of a tree that is not right, are passed over.
func TestLeavesWithoutPairs(t *testing.T) {
	_, p := formatted(t, 60, 3)
	leaf := func(keys ...string) int {
		n := api.Node{Leaf: true}
		for _, key := range keys {
			n.Pairs = append(n.Pairs, api.Pair{Key: []byte(key), Val: []byte(key)})
		}
		return lay(t, p, n)
	}
	root := lay(t, p, innerWith([]int{leaf(), leaf("b"), leaf(), leaf(), leaf("e"), leaf()}, "b", "c", "d", "e", "f"))
	x := at(t, p, root, 2)
	b, e := api.Pair{Key: []byte("b"), Val: []byte("b")}, api.Pair{Key: []byte("e"), Val: []byte("e")}
	for _, ask := range []struct {
		key         string
		first, last []api.Pair
	}{
		{"", []api.Pair{b}, nil},
		{"a", []api.Pair{b}, nil},
		{"b", []api.Pair{b}, nil},
		{"bb", []api.Pair{e}, []api.Pair{b}},
		{"d", []api.Pair{e}, []api.Pair{b}},
		{"e", []api.Pair{e}, []api.Pair{b}},
		{"ee", nil, []api.Pair{e}},
		{"z", nil, []api.Pair{e}},
	} {
		got, err := cursor.First(x, []byte(ask.key))
		wantPair(t, fmt.Sprintf("First(%s)", ask.key), got, err, ask.first)
		got, err = cursor.Last(x, []byte(ask.key))
		wantPair(t, fmt.Sprintf("Last(%s)", ask.key), got, err, ask.last)
	}
	wantPairs(t, "All", listed(cursor.All(x), -1), []api.Pair{b, e})
}
