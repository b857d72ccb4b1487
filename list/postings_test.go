package list_test

import (
	"math"
	"slices"
	"testing"

	"incipit/api"
	"incipit/list"
)

// postings is a list of them.
type postings = []api.Posting

// noPostings are postings that are no list, each for one reason alone, at the first, in the midst and at the last place.
func noPostings() []postings {
	l := []postings{
		{of(0, 1)}, {of(1<<31, 1)}, {of(1<<32-1, 1)},
		{of(5, 1), of(5, 2)}, {of(5, 1), of(4, 2)}, {of(5, 1), of(0, 2)}, {of(5, 1), of(1<<31, 2)},
		{of(5, 1), of(7, 2), of(6, 3)}, {of(5, 1), of(7, 2), of(7, 2)}, {of(5, 1), of(3, 2), of(8, 3)}, {of(5, 1), of(7, 2), of(8, 3), of(5, 4)},
	}
	for _, pos := range [][]int{
		nil, {}, row(0, 1, 2001), {-1}, {math.MinInt}, {1<<20 + 1}, {math.MaxInt}, {1 << 32},
		{3, 3}, {3, 2}, {0, 0}, {1, 2, 4, 4}, {1, 2, 4, 3}, {4, 2, 9}, {1, 1<<20 + 1}, {-1, 1}, {5, -5}, {5, 1<<32 + 6}, append(row(0, 1, 1999), 1998),
	} {
		for at := range 3 {
			three := postings{of(5, 1), of(7, 2), of(9, 3)}
			three[at].Pos = pos
			l = append(l, three)
		}
		l = append(l, postings{{Doc: 5, Pos: pos}})
	}
	return l
}

// P16.3: Docs of any postings, as they stand.
func TestDocs(t *testing.T) {
	for _, x := range []struct {
		l    postings
		want []uint32
	}{
		{nil, nil},
		{postings{}, nil},
		{make(postings, 0, 3), nil},
		{postings{{}}, []uint32{0}},
		{postings{of(7, 1)}, []uint32{7}},
		{postings{of(1<<32-1, 1), of(0), of(9, 3, 3), of(9), of(1<<31, -4)}, []uint32{1<<32 - 1, 0, 9, 9, 1 << 31}},
	} {
		if got := list.Docs(x.l); !slices.Equal(got, x.want) {
			t.Errorf("Docs(%s) are %v", text(x.l), got)
		}
	}
	r := draws(20)
	for range 500 {
		l := r.postings(1 + r.below(12))
		if r.below(2) == 0 {
			l = r.spoiltPostings(l)
		}
		var want []uint32
		for _, p := range l {
			want = append(want, p.Doc)
		}
		if got := list.Docs(l); !slices.Equal(got, want) {
			t.Fatalf("Docs(%s) are %s", text(l), text(got))
		}
	}
}

// P16.3: Merge of lists that the words tell, one by one.
func TestMerge(t *testing.T) {
	for _, x := range []struct {
		lists []postings
		want  postings
	}{
		{nil, nil},
		{[]postings{}, nil},
		{[]postings{nil}, nil},
		{[]postings{{}, nil, {}}, nil},
		{[]postings{{of(1, 0)}}, postings{of(1, 0)}},
		{[]postings{{of(3, 0, 5), of(1<<31-1, 1<<20)}}, postings{of(3, 0, 5), of(1<<31-1, 1<<20)}},
		{[]postings{{of(3, 0, 5)}, nil}, postings{of(3, 0, 5)}},
		{[]postings{nil, {of(3, 0, 5)}}, postings{of(3, 0, 5)}},
		{[]postings{{of(1, 7)}, {of(2, 8)}}, postings{of(1, 7), of(2, 8)}},
		{[]postings{{of(2, 8)}, {of(1, 7)}}, postings{of(1, 7), of(2, 8)}},
		{[]postings{{of(2, 1)}, {of(2, 0)}}, postings{of(2, 0, 1)}},
		{[]postings{{of(2, 0)}, {of(2, 1)}}, postings{of(2, 0, 1)}},
		{[]postings{{of(2, 5)}, {of(2, 5)}}, postings{of(2, 5)}},
		{[]postings{{of(2, 1, 5, 9)}, {of(2, 0, 5, 10)}}, postings{of(2, 0, 1, 5, 9, 10)}},
		{[]postings{{of(2, 1, 5)}, {of(2, 1, 5)}, {of(2, 1, 5)}}, postings{of(2, 1, 5)}},
		{[]postings{{of(1, 4), of(3, 4)}, {of(2, 4), of(3, 5)}, {of(3, 3, 4), of(4, 0)}}, postings{of(1, 4), of(2, 4), of(3, 3, 4, 5), of(4, 0)}},
		{[]postings{{of(5, 1<<20)}, {of(5, 0)}, {of(5, 1<<20-1)}}, postings{of(5, 0, 1<<20-1, 1<<20)}},
		{[]postings{{of(1<<31-1, 1)}, {of(1, 1)}, {of(1<<31-2, 2)}}, postings{of(1, 1), of(1<<31-2, 2), of(1<<31-1, 1)}},
	} {
		got, err := list.Merge(x.lists...)
		wantPostings(t, "Merge of "+text(x.lists), got, err, x.want, api.OK)
		wantMerge(t, x.lists...)
	}
}

// P16.3: a document whose positions come to MaxPlace, and to one more, by many lists, whatever other documents there are.
func TestMergeOfManyPositions(t *testing.T) {
	for _, x := range []struct {
		pos  [][]int
		want api.Errno
	}{
		{[][]int{row(0, 1, 2000)}, api.OK},
		{[][]int{row(0, 1, 2000), row(0, 1, 2000)}, api.OK},
		{[][]int{row(0, 1, 2000), {1999}, {0}, {1000}}, api.OK},
		{[][]int{row(0, 1, 2000), {2000}}, api.ErrLong},
		{[][]int{{2000}, row(0, 1, 2000)}, api.ErrLong},
		{[][]int{row(1, 1, 2000), {0}}, api.ErrLong},
		{[][]int{row(0, 1, 2000), row(1, 1, 2000)}, api.ErrLong},
		{[][]int{row(0, 1, 1000), row(1000, 1, 1000)}, api.OK},
		{[][]int{row(0, 1, 1000), row(1000, 1, 1001)}, api.ErrLong},
		{[][]int{row(0, 2, 1000), row(1, 2, 1000)}, api.OK},
		{[][]int{row(0, 2, 1000), row(1, 2, 1000), {2000}}, api.ErrLong},
		{[][]int{row(0, 2, 1001), row(1, 2, 1000)}, api.ErrLong},
		{[][]int{row(0, 3, 700), row(1, 3, 700), row(2, 3, 600)}, api.OK},
		{[][]int{row(0, 3, 700), row(1, 3, 700), row(2, 3, 601)}, api.ErrLong},
		{[][]int{row(0, 1, 2000), row(0, 500, 2000)}, api.ErrLong},
	} {
		for _, doc := range []uint32{1, 5, 1<<31 - 1} {
			var lists []postings
			for _, pos := range x.pos {
				lists = append(lists, postings{{Doc: doc, Pos: pos}})
			}
			if err := wantMerge(t, lists...); err != x.want {
				t.Errorf("Merge of %s answers %d, not %d", text(lists), int(err), int(x.want))
			}
			others := postings{of(3, 7), of(9, 1, 2)}
			if err := wantMerge(t, append(lists, others, postings{of(2, 8)})...); err != x.want {
				t.Errorf("Merge of %s and others answers %d, not %d", text(lists), int(err), int(x.want))
			}
		}
	}
	apart := []postings{{{Doc: 4, Pos: row(0, 1, 2000)}}, {{Doc: 5, Pos: row(2000, 1, 2000)}}}
	if err := wantMerge(t, apart...); err != api.OK {
		t.Error("two documents that have MaxPlace positions each:", int(err))
	}
}

// P16.3, R2: Merge and Phrase of what is no list of postings, at each place among others; Merge ahead of ErrLong.
func TestWhatIsNoListOfPostings(t *testing.T) {
	long := []postings{{{Doc: 1, Pos: row(0, 1, 2000)}}, {{Doc: 1, Pos: row(1, 1, 2000)}}}
	for _, bad := range noPostings() {
		for n := range 4 {
			for at := range n + 1 {
				for _, other := range []postings{nil, {}, {of(5, 1), of(7, 2), of(9, 3)}, {of(1<<31-1, 4)}} {
					lists := slices.Insert(slices.Repeat([]postings{other}, n), at, bad)
					if err := wantMerge(t, lists...); err != api.ErrList {
						t.Fatalf("Merge of %s answers %d", text(lists), int(err))
					}
					if _, err := wantPhrase(t, row(0, 1, n+1), lists...); err != api.ErrList {
						t.Fatalf("Phrase of %s answers %d", text(lists), int(err))
					}
				}
			}
		}
		for at := range 3 {
			if err := wantMerge(t, slices.Insert(slices.Clone(long), at, bad)...); err != api.ErrList {
				t.Fatalf("Merge of %s, and of too many positions, answers %d", text(bad), int(err))
			}
		}
	}
}

// P16.3: drawn postings, of no list, one, and many, some that are none.
func TestDrawnMerge(t *testing.T) {
	r := draws(21)
	for range 3000 {
		lists := make([]postings, r.below(6))
		width := 1 + r.below(9)
		for i := range lists {
			lists[i] = r.postings(width)
		}
		if err := wantMerge(t, lists...); err != api.OK {
			t.Fatalf("Merge of %s answers %d", text(lists), int(err))
		}
		if len(lists) > 0 {
			at := r.below(len(lists))
			lists[at] = r.spoiltPostings(lists[at])
			wantMerge(t, lists...)
		}
	}
}

// P16.3: each reason for ErrArg alone, and what is just none; of lists that are some, and of ones that are none.
func TestPhraseArguments(t *testing.T) {
	one := postings{of(5, 0, 1, 9)}
	for _, x := range []struct {
		offsets []int
		lists   int
		want    api.Errno
	}{
		{nil, 0, api.ErrArg}, {[]int{}, 0, api.ErrArg},
		{nil, 1, api.ErrArg}, {[]int{0}, 0, api.ErrArg}, {[]int{0}, 2, api.ErrArg}, {[]int{0, 1}, 1, api.ErrArg}, {row(0, 1, 16), 15, api.ErrArg}, {row(0, 1, 15), 16, api.ErrArg}, {[]int{0, 1}, 3, api.ErrArg},
		{[]int{0}, 1, api.OK}, {[]int{0, 1}, 2, api.OK}, {row(0, 1, 15), 15, api.OK},
		{row(0, 1, 16), 16, api.OK}, {row(0, 1, 17), 17, api.ErrArg}, {row(0, 1, 18), 18, api.ErrArg}, {row(0, 1, 300), 300, api.ErrArg}, {row(0, 1, 17), 16, api.ErrArg}, {row(0, 1, 16), 17, api.ErrArg},
		{[]int{1}, 1, api.ErrArg}, {[]int{-1}, 1, api.ErrArg}, {[]int{1, 2}, 2, api.ErrArg}, {[]int{-1, 0}, 2, api.ErrArg}, {[]int{math.MinInt}, 1, api.ErrArg}, {[]int{math.MinInt, 0}, 2, api.ErrArg}, {[]int{1 << 32, 1<<32 + 1}, 2, api.ErrArg},
		{[]int{0, 0}, 2, api.ErrArg}, {[]int{0, 1, 1}, 3, api.ErrArg}, {[]int{0, 2, 2, 3}, 4, api.ErrArg},
		{[]int{0, -1}, 2, api.ErrArg}, {[]int{0, 2, 1}, 3, api.ErrArg}, {[]int{0, 1, 0}, 3, api.ErrArg}, {[]int{0, 5, 1, 9}, 4, api.ErrArg}, {[]int{0, math.MinInt}, 2, api.ErrArg}, {[]int{0, 1, math.MinInt}, 3, api.ErrArg},
		{[]int{0, 1<<20 - 1}, 2, api.OK}, {[]int{0, 1 << 20}, 2, api.OK}, {[]int{0, 1<<20 + 1}, 2, api.ErrArg}, {[]int{0, 1 << 20, 1<<20 + 1}, 3, api.ErrArg}, {[]int{0, 1<<20 + 1, 1<<20 + 2}, 3, api.ErrArg}, {[]int{0, 1, math.MaxInt}, 3, api.ErrArg}, {[]int{0, 1 << 32}, 2, api.ErrArg}, {[]int{0, 1<<20 + 1, 5}, 3, api.ErrArg},
	} {
		lists := slices.Repeat([]postings{one}, x.lists)
		if _, err := wantPhrase(t, x.offsets, lists...); err != x.want {
			t.Errorf("Phrase of %s and %d lists answers %d, not %d", text(x.offsets), x.lists, int(err), int(x.want))
		}
		for at := range lists { // ErrArg stands ahead of ErrList
			spoilt := slices.Clone(lists)
			spoilt[at] = postings{of(5, 1), of(5, 2)}
			want := x.want
			if want == api.OK {
				want = api.ErrList
			}
			if _, err := wantPhrase(t, x.offsets, spoilt...); err != want {
				t.Errorf("Phrase of %s and %d lists, of which one is none, answers %d, not %d", text(x.offsets), x.lists, int(err), int(want))
			}
		}
		wantPhrase(t, x.offsets, make([]postings, x.lists)...)
	}
}

// P16.3: Phrase of lists that the words tell, one by one.
func TestPhrase(t *testing.T) {
	for _, x := range []struct {
		offsets []int
		lists   []postings
		want    postings
	}{
		{[]int{0}, []postings{nil}, nil},
		{[]int{0}, []postings{{of(3, 0, 5), of(9, 1)}}, postings{of(3, 0, 5), of(9, 1)}},
		{[]int{0, 1}, []postings{{of(3, 0)}, {of(3, 1)}}, postings{of(3, 0)}},
		{[]int{0, 1}, []postings{{of(3, 1)}, {of(3, 0)}}, nil},
		{[]int{0, 1}, []postings{{of(3, 1)}, {of(3, 1)}}, nil},
		{[]int{0, 1}, []postings{{of(3, 0)}, {of(3, 2)}}, nil},
		{[]int{0, 1}, []postings{{of(3, 0)}, {of(4, 1)}}, nil},
		{[]int{0, 1}, []postings{{of(3, 0)}, nil}, nil},
		{[]int{0, 1}, []postings{nil, {of(3, 0)}}, nil},
		{[]int{0, 2}, []postings{{of(3, 0, 4, 7)}, {of(3, 2, 5, 9)}}, postings{of(3, 0, 7)}},
		{[]int{0, 1}, []postings{{of(3, 0, 1, 2, 9)}, {of(3, 0, 1, 2, 9)}}, postings{of(3, 0, 1)}}, // the same word twice
		{[]int{0, 1, 2}, []postings{{of(3, 0, 1, 2, 3)}, {of(3, 0, 1, 2, 3)}, {of(3, 0, 1, 2, 3)}}, postings{of(3, 0, 1)}},
		{[]int{0, 1, 2}, []postings{{of(3, 5)}, {of(3, 6)}, {of(3, 7)}}, postings{of(3, 5)}},
		{[]int{0, 1, 2}, []postings{{of(3, 5)}, {of(3, 6)}, {of(3, 8)}}, nil},
		{[]int{0, 1, 2}, []postings{{of(3, 5)}, {of(3, 7)}, {of(3, 7)}}, nil},
		{[]int{0, 1, 2}, []postings{{of(3, 4)}, {of(3, 6)}, {of(3, 7)}}, nil},
		{[]int{0, 1}, []postings{{of(1, 0), of(3, 0), of(5, 8)}, {of(2, 1), of(3, 1), of(5, 9)}}, postings{of(3, 0), of(5, 8)}},
		{[]int{0, 1}, []postings{{of(1, 0), of(2, 0), of(3, 0)}, {of(1, 1), of(2, 2), of(3, 1)}}, postings{of(1, 0), of(3, 0)}}, // 2 has both, but not in a row
		{[]int{0, 1 << 20}, []postings{{of(3, 0, 1)}, {of(3, 1<<20)}}, postings{of(3, 0)}},
		{[]int{0, 1 << 20}, []postings{{of(3, 1, 1<<20)}, {of(3, 1<<20)}}, nil},
		{[]int{0, 1}, []postings{{of(1<<31-1, 1<<20-1)}, {of(1<<31-1, 1<<20)}}, postings{of(1<<31-1, 1<<20-1)}},
		{[]int{0, 1}, []postings{{of(1<<31-1, 1<<20)}, {of(1<<31-1, 0)}}, nil},
	} {
		got, err := list.Phrase(x.offsets, x.lists...)
		wantPostings(t, "Phrase of "+text(x.offsets)+" and "+text(x.lists), got, err, x.want, api.OK)
		wantPhrase(t, x.offsets, x.lists...)
	}
}

// P16.3: as many words as there may be, and as many positions; one of them elsewhere, at each place.
func TestPhraseOfManyWords(t *testing.T) {
	for n := 1; n <= 16; n++ {
		most := 2000 / n
		lists := make([]postings, n)
		for i := range lists {
			lists[i] = postings{of(4, 3), {Doc: 6, Pos: row(10+3*i, 40, most)}, of(8, 20+3*i)}
		}
		got, err := list.Phrase(row(0, 3, n), lists...)
		want := postings{{Doc: 6, Pos: row(10, 40, most)}, of(8, 20)}
		if n == 1 {
			want = slices.Insert(want, 0, of(4, 3))
		}
		wantPostings(t, "Phrase of many words", got, err, want, api.OK)
		for i := range n {
			elsewhere := slices.Clone(lists)
			elsewhere[i] = postings{of(4, 3), {Doc: 6, Pos: row(10+3*i, 40, most-1)}, of(8, 21+3*i)}
			if found, err := wantPhrase(t, row(0, 3, n), elsewhere...); n > 1 && found != 1 || err != api.OK {
				t.Fatalf("the word %d of %d elsewhere: %d postings, %d", i, n, found, int(err))
			}
			elsewhere[i] = lists[i][:2]
			wantPhrase(t, row(0, 3, n), elsewhere...)
			elsewhere[i] = lists[i][2:]
			wantPhrase(t, row(0, 3, n), elsewhere...)
		}
	}
}

// offsets draws so many that may be.
func (r *draws) offsets(n int) []int {
	l := make([]int, n)
	for i := 1; i < n; i++ {
		l[i] = l[i-1] + 1 + r.below(3)*r.below(2)
	}
	return l
}

// P16.3: drawn postings and offsets, some that may not be.
func TestDrawnPhrase(t *testing.T) {
	r := draws(22)
	met := 0
	for range 6000 {
		lists := make([]postings, 1+r.below(4))
		width := 1 + r.below(6)
		for i := range lists {
			lists[i] = r.postings(width)
		}
		if found, err := wantPhrase(t, r.offsets(len(lists)), lists...); err != api.OK {
			t.Fatalf("Phrase of %s answers %d", text(lists), int(err))
		} else if found > 0 && len(lists) > 1 {
			met++
		}
		offsets := r.offsets(len(lists))
		offsets[r.below(len(offsets))] += r.below(5) - 2
		wantPhrase(t, offsets, lists...)
		at := r.below(len(lists))
		lists[at] = r.spoiltPostings(lists[at])
		wantPhrase(t, r.offsets(len(lists)), lists...)
		wantPhrase(t, offsets, lists...)
	}
	if met < 500 {
		t.Error("only so many phrases are found:", met)
	}
}
