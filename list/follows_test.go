package list_test

import (
	"slices"
	"strings"
	"testing"

	"incipit/api"
	"incipit/list"
	"incipit/words"
)

// set asks that a call is OK, and hands on its documents.
func set(t *testing.T) func(docs []uint32, err api.Errno) []uint32 {
	return func(docs []uint32, err api.Errno) []uint32 {
		t.Helper()
		if err != api.OK {
			t.Fatal("an error of lists that may be:", int(err))
		}
		return docs
	}
}

// shuffled is lists in another order, some of them handed in twice.
func (r *draws) shuffled(lists [][]uint32) [][]uint32 {
	l := slices.Clone(lists)
	for i := range l {
		k := r.below(i + 1)
		l[i], l[k] = l[k], l[i]
	}
	for range r.below(4) {
		l = slices.Insert(l, r.below(len(l)+1), l[r.below(len(l))])
	}
	return l
}

// wantAnyOrder asks P16.4 of lists: in whatever order, and of whatever twice, And and Or are the same.
func wantAnyOrder(t *testing.T, r *draws, lists [][]uint32) {
	t.Helper()
	and, andErr := list.And(lists...)
	or, orErr := list.Or(lists...)
	other := r.shuffled(lists)
	if l, err := list.And(other...); err != andErr || !slices.Equal(l, and) {
		t.Fatalf("And of %s is %s, %d, of %s %s, %d", text(lists), text(and), int(andErr), text(other), text(l), int(err))
	}
	if l, err := list.Or(other...); err != orErr || !slices.Equal(l, or) {
		t.Fatalf("Or of %s is %s, %d, of %s %s, %d", text(lists), text(or), int(orErr), text(other), text(l), int(err))
	}
}

// wantLaws asks P16.4 and P16.5 of three lists.
func wantLaws(t *testing.T, all, a, b []uint32) {
	t.Helper()
	of := set(t)
	notA, notB := of(list.Not(all, a)), of(list.Not(all, b))
	and, or := of(list.And(a, b)), of(list.Or(a, b))
	for _, x := range [][2][]uint32{
		{of(list.Or(notA, notB)), of(list.Not(all, and))},
		{of(list.And(notA, notB)), of(list.Not(all, or))},
		{of(list.Or(and, of(list.Not(a, b)))), a},
		{of(list.And(and, of(list.Not(a, b)))), nil},
		{told(list.Both(a, b), -1), and},
		{told(list.Both(b, a), -1), and},
	} {
		if !slices.Equal(x[0], x[1]) {
			t.Fatalf("a law of %s, %s, %s: %s is not %s", text(all), text(a), text(b), text(x[0]), text(x[1]))
		}
	}
}

// P16.4, P16.5: of drawn lists, and of what is none.
func TestLaws(t *testing.T) {
	r := draws(30)
	for range 6000 {
		width := 1 + r.below(30)
		wantLaws(t, r.docs(width), r.docs(width), r.docs(width))
		lists := make([][]uint32, 1+r.below(5))
		for i := range lists {
			lists[i] = r.docs(width)
		}
		wantAnyOrder(t, &r, lists)
		at := r.below(len(lists))
		lists[at] = r.spoilt(lists[at])
		wantAnyOrder(t, &r, lists)
	}
	for _, none := range [][]uint32{nil, {}} {
		wantLaws(t, none, []uint32{1, 2}, []uint32{2, 3})
		wantLaws(t, []uint32{1, 2}, none, []uint32{2, 3})
		wantLaws(t, []uint32{1, 2}, []uint32{2, 3}, none)
		wantLaws(t, none, none, none)
	}
}

// P16.4: Merge, too, is the same in whatever order, and of whatever is handed in twice.
func TestMergeInAnyOrder(t *testing.T) {
	r := draws(31)
	for range 1000 {
		lists := make([]postings, 1+r.below(5))
		width := 1 + r.below(8)
		for i := range lists {
			lists[i] = r.postings(width)
		}
		want, _ := plainMerge(lists)
		slices.Reverse(lists)
		got, err := list.Merge(append(lists, lists[r.below(len(lists))])...)
		wantPostings(t, "Merge in another order", got, err, want, api.OK)
	}
}

// written is texts: of each document its words.
type written map[uint32][]string

// postingsOfWord is where a word stands.
func (w written) postingsOfWord(word string) postings {
	all := map[uint32]places{}
	for doc, words := range w {
		all[doc] = places{}
		for pos, there := range words {
			if there == word {
				all[doc][pos] = 1
			}
		}
	}
	return postingsOf(all)
}

// whereInRow is where words stand so, found by going through all texts; a place without a word in the phrase may have any.
func (w written) whereInRow(phrase []string) postings {
	all := map[uint32]places{}
	for doc, words := range w {
		all[doc] = places{}
		for p := range words {
			is := p+len(phrase) <= len(words)
			for i, word := range phrase {
				is = is && (word == "" || words[p+i] == word)
			}
			if is {
				all[doc][p] = 1
			}
		}
	}
	return postingsOf(all)
}

// wantRow asks P16.6 of a phrase whose first and last places have words. It answers in how many documents it is found.
func (w written) wantRow(t *testing.T, phrase []string) int {
	t.Helper()
	var offsets []int
	var lists []postings
	for i, word := range phrase {
		if word != "" {
			offsets = append(offsets, i)
			lists = append(lists, w.postingsOfWord(word))
		}
	}
	got, err := list.Phrase(offsets, lists...)
	wantPostings(t, "Phrase of "+text(phrase)+" in "+text(w), got, err, w.whereInRow(phrase), api.OK)
	return len(got)
}

// drawnWords draws so many words of a few; of none some are left out.
func (r *draws) drawnWords(n int, gaps bool) []string {
	words := make([]string, n)
	for i := range words {
		words[i] = string(rune('a' + r.below(3)))
		if gaps && i > 0 && i < n-1 && r.below(3) == 0 {
			words[i] = ""
		}
	}
	return words
}

// P16.6: words that stand in a row, wherever in drawn texts, one behind the other and with places between them.
func TestWordsInARow(t *testing.T) {
	r := draws(32)
	met := 0
	for range 3000 {
		w, last := written{}, uint32(0)
		for range r.below(5) {
			last = 1 + uint32(r.below(9))
			w[last] = r.drawnWords(r.below(40), false)
		}
		for range 3 {
			met += w.wantRow(t, r.drawnWords(1+r.below(5), true))
		}
		for p := range w[last] { // what a text has is found there, at each place
			phrase := w[last][p:min(len(w[last]), p+1+r.below(6))]
			if w.wantRow(t, phrase) == 0 {
				t.Fatalf("%s of document %d is not found in %s", text(phrase), last, text(w))
			}
		}
	}
	if met < 3000 {
		t.Error("only so many phrases are found:", met)
	}
}

// P16.6: texts as words takes them apart; a stop word leaves its place.
func TestPhrasesOfTexts(t *testing.T) {
	c := api.Conf{Stops: []string{"the"}, Cap: 12}
	texts := []string{"the cat sat on the mat", "on the mat the cat sat, the cat sat", "sat cat", "a cat", "the mat, the mat: the mat"}
	index := map[string]postings{}
	for i, line := range texts {
		doc := uint32(i + 1)
		for token := range words.All(c, []byte(line)) {
			l := index[token.Term]
			if len(l) == 0 || l[len(l)-1].Doc != doc {
				l = append(l, of(doc))
			}
			l[len(l)-1].Pos = append(l[len(l)-1].Pos, token.Pos)
			index[token.Term] = l
		}
	}
	for _, x := range []struct {
		words   string
		offsets []int
		want    postings
	}{
		{"cat sat", []int{0, 1}, postings{of(1, 1), of(2, 4, 7)}},
		{"sat cat", []int{0, 1}, postings{of(3, 0)}},
		{"sat cat", []int{0, 2}, postings{of(2, 5)}},
		{"on mat", []int{0, 2}, postings{of(1, 3), of(2, 0)}},
		{"on mat", []int{0, 1}, nil},
		{"mat mat mat", []int{0, 2, 4}, postings{of(5, 1)}},
		{"mat mat", []int{0, 2}, postings{of(5, 1, 3)}},
		{"mat cat cat", []int{0, 2, 5}, postings{of(2, 2)}},
		{"cat", []int{0}, postings{of(1, 1), of(2, 4, 7), of(3, 1), of(4, 1)}},
		{"dog", []int{0}, nil},
		{"cat dog", []int{0, 1}, nil},
	} {
		var lists []postings
		for _, word := range strings.Fields(x.words) {
			lists = append(lists, index[word])
		}
		got, err := list.Phrase(x.offsets, lists...)
		wantPostings(t, "Phrase of "+x.words, got, err, x.want, api.OK)
	}
}

// taking hands out the bytes one by one, and noughts behind them.
type taking []byte

func (b *taking) next() int {
	if len(*b) == 0 {
		return 0
	}
	x := int((*b)[0])
	*b = (*b)[1:]
	return x
}

// docs makes lists of documents of bytes by a rule; a step of 0 makes one that is none.
func (b *taking) docs() [][]uint32 {
	var lists [][]uint32
	for len(*b) > 0 && len(lists) < 8 {
		doc := uint32(b.next()) << uint(b.next()%32)
		var l []uint32
		for n := b.next() % 12; n > 0; n-- {
			l = append(l, doc)
			doc += uint32(b.next())
		}
		lists = append(lists, l)
	}
	return lists
}

// postings makes lists of postings of bytes by a rule, some of which are none.
func (b *taking) postings() []postings {
	var lists []postings
	for len(*b) > 0 && len(lists) < 18 {
		var l postings
		doc := uint32(0)
		for n := b.next() % 6; n > 0; n-- {
			doc += uint32(b.next()%4) << uint(b.next()%3*15)
			p := of(doc)
			pos := b.next() - 3
			for m := b.next() % 7; m > 0; m-- {
				p.Pos = append(p.Pos, pos)
				pos += b.next() % 4 << uint(b.next()%3*10)
			}
			l = append(l, p)
		}
		lists = append(lists, l)
	}
	return lists
}

func FuzzDocs(f *testing.F) {
	f.Add([]byte{1, 0, 3, 1, 2, 3, 1, 0, 2, 2, 1})
	f.Add([]byte{0, 0, 2, 1, 1, 0, 0, 3, 1, 1, 0, 255, 24, 4, 255, 255, 255, 0})
	f.Fuzz(func(t *testing.T, data []byte) {
		b := taking(data)
		lists := b.docs()
		r := draws(len(data))
		if len(lists) > 0 {
			wantAnyOrder(t, &r, lists)
		}
		are := wantSets(t, lists...)
		for _, l := range lists {
			want := api.ErrList
			if plainIs(l) {
				want = api.OK
			}
			wantCheck(t, "of bytes", l, want)
			wantTold(t, "All", list.All(l), l)
			for _, o := range lists {
				wantSets(t, l, o)
				if are {
					wantLaws(t, lists[0], l, o)
				}
			}
		}
	})
}

func FuzzPostings(f *testing.F) {
	f.Add([]byte{2, 1, 1, 0, 1, 5, 3, 2, 1, 0, 1, 0, 2, 1, 1, 0, 1, 6, 3, 2, 1, 0, 1, 0})
	f.Add([]byte{3, 1, 0, 3, 2, 1, 0, 3, 1, 1, 3, 1, 0, 3, 3, 1, 0, 2, 0, 3, 1, 1, 2, 3, 1, 0, 4, 1, 1, 0})
	f.Fuzz(func(t *testing.T, data []byte) {
		b := taking(data)
		spread := b.next()
		lists := b.postings()
		wantMerge(t, lists...)
		offsets := row(0, spread%4, len(lists))
		wantPhrase(t, offsets, lists...)
		for i, l := range lists {
			for _, o := range lists[i:] {
				wantMerge(t, l, o)
				wantPhrase(t, []int{0, spread}, l, o)
			}
		}
	})
}
