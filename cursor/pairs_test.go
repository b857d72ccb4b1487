package cursor_test

import (
	"bytes"
	"fmt"
	"iter"
	"math"
	"slices"
	"testing"

	"incipit/api"
	"incipit/cursor"
)

// listOf is pairs of single letters: the key's, and the value's.
func listOf(texts ...string) []api.Pair {
	var l []api.Pair
	for _, text := range texts {
		l = append(l, api.Pair{Key: []byte(text[:1]), Val: []byte(text[1:])})
	}
	return l
}

// counted tells pairs, and counts how many it was asked for.
func counted(l []api.Pair, asked *int) iter.Seq2[[]byte, []byte] {
	return func(yield func([]byte, []byte) bool) {
		for _, p := range l {
			*asked++
			if !yield(p.Key, p.Val) {
				return
			}
		}
	}
}

// endless tells pairs without an end.
func endless(asked *int) iter.Seq2[[]byte, []byte] {
	return func(yield func([]byte, []byte) bool) {
		for i := 0; ; i++ {
			*asked++
			if !yield(two(i), two(i)) {
				return
			}
		}
	}
}

// P12.3: Gather with most below 0, 0, 1, as many as there are, and more: so many are told, and no more are asked for.
func TestGather(t *testing.T) {
	var l []api.Pair
	for i := range 12 {
		l = append(l, api.Pair{Key: two(i), Val: longVal(i)})
	}
	for count := range len(l) + 1 {
		for _, most := range []int{math.MinInt, -1 << 32, -65536, -256, -2, -1, 0, 1, 2, count - 1, count, count + 1, 100, 256, 65536, 1 << 32, math.MaxInt} {
			want := max(0, min(most, count))
			asked := 0
			got := cursor.Gather(counted(l[:count], &asked), most)
			wantPairs(t, fmt.Sprintf("Gather of %d, %d", count, most), got, l[:want])
			if asked != want {
				t.Fatalf("Gather of %d, %d asks for %d", count, most, asked)
			}
			if got := cursor.Gather(nil, most); len(got) != 0 {
				t.Fatalf("Gather(nil, %d) answers %v", most, got)
			}
		}
	}
	for most := range 300 {
		asked := 0
		if got := cursor.Gather(endless(&asked), most); len(got) != most || asked != most {
			t.Fatalf("Gather of pairs without an end, %d, answers %d, asks for %d", most, len(got), asked)
		}
	}
}

// P12.3: Gather of what a tree tells.
func TestGatherOfATree(t *testing.T) {
	for _, b := range someTrees(t) {
		pairs := b.pairs()
		for _, most := range []int{-1, 0, 1, 2, len(pairs) - 1, len(pairs), len(pairs) + 1, math.MaxInt} {
			want := pairs[:max(0, min(most, len(pairs)))]
			wantPairs(t, fmt.Sprintf("%s: Gather(All, %d)", b.what, most), cursor.Gather(cursor.All(b.x), most), want)
			wantPairs(t, fmt.Sprintf("%s: Gather(Merge, %d)", b.what, most), cursor.Gather(cursor.Merge(pairs, nil), most), want)
		}
	}
}

// P12.3, R3: what is gathered is nobody's else: an iterator that tells all its pairs in one memory, and writes over it, leaves it as it was.
func TestGatherOfOneMemory(t *testing.T) {
	key, val := make([]byte, 2, 40), make([]byte, 2, 40)
	all := func(yield func([]byte, []byte) bool) {
		for i := range 9 {
			copy(key, two(i))
			copy(val, two(i+100))
			if !yield(key, val) {
				break
			}
		}
		scribble(key, val)
	}
	got := cursor.Gather(all, 7)
	for i, p := range got {
		wantPairs(t, "Gather", []api.Pair{p}, []api.Pair{{Key: two(i), Val: two(i + 100)}})
	}
	for i, p := range got {
		scribble(p.Key, p.Val)
		wantPairs(t, "the others", got[i+1:], listed(func(yield func([]byte, []byte) bool) {
			for j := i + 1; j < 7; j++ {
				yield(two(j), two(j+100))
			}
		}, -1))
	}
	if len(got) != 7 {
		t.Fatal("Gather answers", len(got))
	}
}

// R1: iterators that panic, that go on though no more is asked for, and that tell nil: no call panics, what was told ahead of it counts.
func TestGatherOfIteratorsThatMisbehave(t *testing.T) {
	panics := func(yield func([]byte, []byte) bool) {
		for i := range 5 {
			if !yield(two(i), nil) {
				return
			}
		}
		panic("an iterator's own")
	}
	goesOn := func(yield func([]byte, []byte) bool) {
		for i := 0; ; i++ {
			yield(two(i), nil)
		}
	}
	catches := func(yield func([]byte, []byte) bool) {
		defer func() { _ = recover() }()
		for i := range 50 {
			yield(two(i), nil)
		}
	}
	var want []api.Pair
	for i := range 50 {
		want = append(want, api.Pair{Key: two(i)})
	}
	for most := -1; most < 10; most++ {
		wantPairs(t, "Gather of one that panics", cursor.Gather(panics, most), want[:max(0, min(most, 5))])
		wantPairs(t, "Gather of one that goes on", cursor.Gather(goesOn, most), want[:max(0, most)])
		wantPairs(t, "Gather of one that catches", cursor.Gather(catches, most), want[:max(0, most)])
	}
	none := func(yield func([]byte, []byte) bool) { yield(nil, nil) }
	wantPairs(t, "Gather of nil", cursor.Gather(none, 3), []api.Pair{{}})
}

// P12.3: Merge of empty lists, of one that is empty, of lists with keys in common, of lists that are the same.
func TestMerge(t *testing.T) {
	for _, x := range []struct{ a, b, want []api.Pair }{
		{nil, nil, nil},
		{[]api.Pair{}, nil, nil},
		{listOf("a1"), nil, listOf("a1")},
		{nil, listOf("a2"), listOf("a2")},
		{listOf("a1"), listOf("a2"), listOf("a1")},
		{listOf("a1"), listOf("b2"), listOf("a1", "b2")},
		{listOf("b1"), listOf("a2"), listOf("a2", "b1")},
		{listOf("a1", "c1"), listOf("a2", "b2"), listOf("a1", "b2", "c1")},
		{listOf("a1", "b1", "c1"), listOf("a2", "b2", "c2"), listOf("a1", "b1", "c1")},
		{listOf("a1", "b1"), listOf("b2", "c2", "d2"), listOf("a1", "b1", "c2", "d2")},
		{listOf("c1", "d1"), listOf("a2", "b2"), listOf("a2", "b2", "c1", "d1")},
		{listOf("a1", "e1"), listOf("b2", "c2", "d2"), listOf("a1", "b2", "c2", "d2", "e1")},
		{[]api.Pair{{Key: nil, Val: []byte("1")}}, []api.Pair{{Key: []byte{}, Val: []byte("2")}, {Key: []byte("a")}}, []api.Pair{{Val: []byte("1")}, {Key: []byte("a")}}},
	} {
		wantPairs(t, fmt.Sprintf("Merge(%q, %q)", x.a, x.b), listed(cursor.Merge(x.a, x.b), -1), x.want)
	}
}

// P12.3: lists whose keys do not rise, as the chapter's brackets say.
func TestMergeOfListsThatDoNotRise(t *testing.T) {
	for _, x := range []struct{ a, b, want []api.Pair }{
		{listOf("b1", "a1"), nil, listOf("b1", "a1")},
		{nil, listOf("b2", "a2", "b3"), listOf("b2", "a2", "b3")},
		{listOf("b1", "a1"), listOf("b2", "a2"), listOf("b1", "a1")},
		{listOf("b1", "a1"), listOf("a2", "b2"), listOf("a2", "b1", "a1")},
		{listOf("a1", "b1"), listOf("b2", "a2"), listOf("a1", "b1", "a2")},
		{listOf("a1", "a3"), listOf("a2"), listOf("a1", "a3")},
		{listOf("a1"), listOf("a2", "a4"), listOf("a1", "a4")},
		{listOf("a1", "a3"), listOf("a2", "a4", "a6"), listOf("a1", "a3", "a6")},
		{listOf("c1", "a1", "d1"), listOf("b2", "d2", "a2"), listOf("b2", "c1", "a1", "d1", "a2")},
	} {
		wantPairs(t, fmt.Sprintf("Merge(%q, %q)", x.a, x.b), listed(cursor.Merge(x.a, x.b), -1), x.want)
	}
}

// drawnList is pairs of short keys that rise, or do not, some of them nil.
func (r *draws) drawnList(most int, rise bool, mark byte) []api.Pair {
	l := make([]api.Pair, r.below(most+1))
	for i := range l {
		l[i] = api.Pair{Key: r.text(0, 2), Val: []byte{mark, byte(i)}}
		if r.below(9) == 0 {
			l[i].Key = nil
		}
	}
	if rise {
		slices.SortFunc(l, func(p, q api.Pair) int { return bytes.Compare(p.Key, q.Key) })
		l = slices.CompactFunc(l, func(p, q api.Pair) bool { return bytes.Equal(p.Key, q.Key) })
	}
	return l
}

// P12.3: drawn lists, rising and not, against the chapter's words and, of those that rise, against a map; left behind each pair, and gone through again.
func TestDrawnLists(t *testing.T) {
	r := draws(12)
	for n := range 2000 {
		rise := n%2 == 0
		a, b := r.drawnList(12, rise, 'a'), r.drawnList(12, rise, 'b')
		want := plainMerge(a, b)
		if rise {
			wantPairs(t, "the brackets", want, mapMerge(a, b))
		}
		all := cursor.Merge(a, b)
		what := fmt.Sprintf("Merge(%q, %q)", a, b)
		for most := range len(want) + 1 {
			wantPairs(t, what, listed(all, most), want[:most])
		}
		for range 2 {
			wantPairs(t, what, listed(all, -1), want)
		}
		wantPairs(t, "Merge of a list with itself", listed(cursor.Merge(a, a), -1), plainMerge(a, a))
	}
}

// mapMerge is both lists in a map, a's pairs over b's, sorted.
func mapMerge(a, b []api.Pair) []api.Pair {
	m := map[string]string{}
	for _, p := range slices.Concat(b, a) {
		m[string(p.Key)] = string(p.Val)
	}
	return sorted(m)
}

// Whatever lists are merged: as the chapter's brackets say.
func FuzzMerge(f *testing.F) {
	f.Add([]byte("\x01a\x01c"), []byte("\x01a\x01b"))
	f.Add([]byte("\x00\x01b\x00"), []byte("\x02ba\x01b"))
	f.Fuzz(func(t *testing.T, first, second []byte) {
		list := func(b []byte) []api.Pair {
			var l []api.Pair
			for len(b) > 0 {
				n := min(int(b[0]%4), len(b)-1)
				l = append(l, api.Pair{Key: b[1 : 1+n], Val: b[:1]})
				b = b[1+n:]
			}
			return l
		}
		a, b := list(first), list(second)
		want := plainMerge(a, b)
		all := cursor.Merge(a, b)
		for most := range min(len(want), 20) + 1 {
			wantPairs(t, "Merge", listed(all, most), want[:most])
			wantPairs(t, "Gather", cursor.Gather(all, most), want[:most])
		}
		wantPairs(t, "Merge", listed(all, -1), want)
	})
}
