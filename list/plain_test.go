package list_test

import (
	"fmt"
	"iter"
	"slices"
	"testing"

	"incipit/api"
	"incipit/list"
)

// The chapter's own words, done by hand: what the package is held against. Neither it nor the layer below is called here.

// plainIs is whether l is a list of documents: each one is above all that stand ahead of it.
func plainIs(l []uint32) bool {
	top := int64(-1)
	for _, doc := range l {
		if int64(doc) <= top {
			return false
		}
		top = int64(doc)
	}
	return true
}

// plainIsAll is whether all are lists of documents.
func plainIsAll(lists [][]uint32) bool {
	for _, l := range lists {
		if !plainIs(l) {
			return false
		}
	}
	return true
}

// counted is in how many lists each document is.
func counted(lists [][]uint32) map[uint32]int {
	in := map[uint32]int{}
	for _, l := range lists {
		for _, doc := range l {
			in[doc]++
		}
	}
	return in
}

// plainWhere is the documents that are in so many lists that want takes it, rising; each list has each of them once.
func plainWhere(lists [][]uint32, want func(n int) bool) []uint32 {
	var docs []uint32
	for doc, n := range counted(lists) {
		if want(n) {
			docs = append(docs, doc)
		}
	}
	slices.Sort(docs)
	return docs
}

// plainAnd, plainOr and plainNot are And, Or and Not of lists of documents.
func plainAnd(lists [][]uint32) []uint32 {
	return plainWhere(lists, func(n int) bool { return n == len(lists) })
}

func plainOr(lists [][]uint32) []uint32 {
	return plainWhere(lists, func(n int) bool { return n > 0 })
}

func plainNot(all, l []uint32) []uint32 {
	in := counted([][]uint32{l})
	var docs []uint32
	for _, doc := range all {
		if in[doc] == 0 {
			docs = append(docs, doc)
		}
	}
	return docs
}

// plainMayBe is whether a posting may be behind one of the document prev, by chapter 15's words.
func plainMayBe(prev uint32, p api.Posting) bool {
	if p.Doc <= prev || p.Doc > 2147483647 || len(p.Pos) < 1 || len(p.Pos) > 2000 {
		return false
	}
	for i, pos := range p.Pos {
		if pos < 0 || pos > 1048576 || i > 0 && pos <= p.Pos[i-1] {
			return false
		}
	}
	return true
}

// plainArePostings is whether all are lists of postings.
func plainArePostings(lists [][]api.Posting) bool {
	for _, l := range lists {
		prev := uint32(0)
		for _, p := range l {
			if !plainMayBe(prev, p) {
				return false
			}
			prev = p.Doc
		}
	}
	return true
}

// places is which positions a document has.
type places map[int]int

// gatheredPlaces is the positions of each document, of all lists together: in how many lists each one is.
func gatheredPlaces(lists [][]api.Posting) map[uint32]places {
	all := map[uint32]places{}
	for _, l := range lists {
		for _, p := range l {
			if all[p.Doc] == nil {
				all[p.Doc] = places{}
			}
			for _, pos := range p.Pos {
				all[p.Doc][pos]++
			}
		}
	}
	return all
}

// postingsOf is the postings of documents' positions, rising; a document without one has none.
func postingsOf(all map[uint32]places) []api.Posting {
	var l []api.Posting
	for doc, has := range all {
		p := api.Posting{Doc: doc}
		for pos := range has {
			p.Pos = append(p.Pos, pos)
		}
		slices.Sort(p.Pos)
		if len(p.Pos) > 0 {
			l = append(l, p)
		}
	}
	slices.SortFunc(l, func(a, b api.Posting) int { return int(a.Doc) - int(b.Doc) })
	return l
}

// plainMerge is Merge.
func plainMerge(lists [][]api.Posting) ([]api.Posting, api.Errno) {
	if !plainArePostings(lists) {
		return nil, 160
	}
	l := postingsOf(gatheredPlaces(lists))
	for _, p := range l {
		if len(p.Pos) > 2000 {
			return nil, 3
		}
	}
	return l, 0
}

// plainOffsets is whether so many offsets may be those of so many lists.
func plainOffsets(offsets []int, lists int) bool {
	if len(offsets) != lists || lists < 1 || lists > 16 || offsets[0] != 0 {
		return false
	}
	for i, o := range offsets {
		if o > 1048576 || i > 0 && offsets[i-1] >= o {
			return false
		}
	}
	return true
}

// plainPhrase is Phrase: each position from 0 on of each document that the first list has is asked of all lists.
func plainPhrase(offsets []int, lists [][]api.Posting) ([]api.Posting, api.Errno) {
	if !plainOffsets(offsets, len(lists)) {
		return nil, 1
	}
	if !plainArePostings(lists) {
		return nil, 160
	}
	var words []map[uint32]places
	for _, l := range lists {
		words = append(words, gatheredPlaces([][]api.Posting{l}))
	}
	found := map[uint32]places{}
	for doc, has := range words[0] {
		found[doc] = places{}
		for p := range has {
			n := 0
			for i := range words {
				n += words[i][doc][p+offsets[i]]
			}
			if n == len(words) {
				found[doc][p] = 1
			}
		}
	}
	return postingsOf(found), 0
}

// of is a posting.
func of(doc uint32, pos ...int) api.Posting { return api.Posting{Doc: doc, Pos: pos} }

// row is so many positions from the first one on, each so much above the one ahead.
func row(first, step, n int) []int {
	l := make([]int, n)
	for i := range l {
		l[i] = first + i*step
	}
	return l
}

// cloned is the same postings, that nobody else can change.
func cloned(l []api.Posting) []api.Posting {
	var c []api.Posting
	for _, p := range l {
		c = append(c, api.Posting{Doc: p.Doc, Pos: append([]int(nil), p.Pos...)})
	}
	return c
}

// same is whether two lists of postings are the same.
func same(a, b []api.Posting) bool {
	return slices.EqualFunc(a, b, func(p, q api.Posting) bool { return p.Doc == q.Doc && slices.Equal(p.Pos, q.Pos) })
}

// told is what an iterator tells, up to so many documents; all of them, if that is below 0.
func told(all iter.Seq[uint32], most int) []uint32 {
	var l []uint32
	for doc := range all {
		if len(l) == most {
			break
		}
		l = append(l, doc)
	}
	return l
}

// text is what stands in a list, short enough to be told.
func text(x any) string { return fmt.Sprintf("%.300s", fmt.Sprint(x)) }

// docsCall is a call that answers documents, or an error.
type docsCall func() ([]uint32, api.Errno)

// wantDocs asks for documents; for ErrList and nothing else, if the call is to be of no lists.
func wantDocs(t *testing.T, what string, call docsCall, are bool, want []uint32) {
	t.Helper()
	got, err := call()
	switch {
	case !are && (got != nil || err != api.ErrList):
		t.Fatalf("%s answers %s, %d, not ErrList", what, text(got), int(err))
	case are && (!slices.Equal(got, want) || err != api.OK):
		t.Fatalf("%s answers %s, %d, not %s", what, text(got), int(err), text(want))
	}
}

// wantSets holds And, Or, and of two lists Not and Both, against the words. It answers whether all are lists.
func wantSets(t *testing.T, lists ...[]uint32) bool {
	t.Helper()
	are := plainIsAll(lists)
	wantDocs(t, "And of "+text(lists), func() ([]uint32, api.Errno) { return list.And(lists...) }, are, plainAnd(lists))
	wantDocs(t, "Or of "+text(lists), func() ([]uint32, api.Errno) { return list.Or(lists...) }, are, plainOr(lists))
	if len(lists) != 2 {
		return are
	}
	all, l := lists[0], lists[1]
	wantDocs(t, "Not of "+text(lists), func() ([]uint32, api.Errno) { return list.Not(all, l) }, are, plainNot(all, l))
	var both []uint32
	if are {
		both = plainAnd(lists)
	}
	if got := told(list.Both(all, l), -1); !slices.Equal(got, both) {
		t.Fatalf("Both of %s tells %s, not %s", text(lists), text(got), text(both))
	}
	return are
}

// wantPostings asks for postings, or for an error and nothing else.
func wantPostings(t *testing.T, what string, got []api.Posting, err api.Errno, want []api.Posting, wantErr api.Errno) {
	t.Helper()
	if err != wantErr || err != api.OK && got != nil || !same(got, want) {
		t.Fatalf("%s answers %s, %d, not %s, %d", what, text(got), int(err), text(want), int(wantErr))
	}
}

// wantMerge holds Merge against the words, and answers its error.
func wantMerge(t *testing.T, lists ...[]api.Posting) api.Errno {
	t.Helper()
	want, wantErr := plainMerge(lists)
	got, err := list.Merge(lists...)
	wantPostings(t, "Merge of "+text(lists), got, err, want, wantErr)
	return err
}

// wantPhrase holds Phrase against the words, and answers how many postings it finds, and its error.
func wantPhrase(t *testing.T, offsets []int, lists ...[]api.Posting) (int, api.Errno) {
	t.Helper()
	want, wantErr := plainPhrase(offsets, lists)
	got, err := list.Phrase(offsets, lists...)
	wantPostings(t, "Phrase of "+text(offsets)+" and "+text(lists), got, err, want, wantErr)
	return len(got), err
}

// draws is a rule by which lists are drawn, always the same of a seed.
type draws uint32

// below draws a number from 0 on, below n.
func (r *draws) below(n int) int {
	*r = *r*1664525 + 1013904223
	return int(uint32(*r)>>8) % n
}

// docs draws a list of documents; those of one width have much in common.
func (r *draws) docs(width int) []uint32 {
	first := []uint32{0, 1, 1<<31 - 4, uint32(1<<32 - width)}[r.below(4)*r.below(2)]
	keep := 1 + r.below(6)
	var l []uint32
	for i := range width {
		if r.below(6) < keep {
			l = append(l, first+uint32(i))
		}
	}
	return l
}

// spoilt is documents that are changed at a place so that they do not rise there.
func (r *draws) spoilt(l []uint32) []uint32 {
	l = slices.Clone(l)
	if len(l) < 2 {
		return []uint32{7, uint32(r.below(8))}
	}
	i := 1 + r.below(len(l)-1)
	switch r.below(3) {
	case 0:
		l[i] = l[i-1]
	case 1:
		l[i], l[i-1] = l[i-1], l[i]
	case 2:
		l = slices.Insert(l, i, l[r.below(i)])
	}
	return l
}

// positions draws positions of a document that may be, from a narrow row that all lists have of it: at the beginning, in the midst, or at the end.
func (r *draws) positions(doc uint32) []int {
	first := []int{0, 300, 1<<20 - 9}[doc%3]
	keep := 1 + r.below(4)
	l := []int{first + r.below(10)*r.below(2)}
	for pos := l[0] + 1; pos < first+10; pos++ {
		if r.below(4) < keep {
			l = append(l, pos)
		}
	}
	return l
}

// postings draws a list of postings of few documents; those of one width have much in common.
func (r *draws) postings(width int) []api.Posting {
	first := []uint32{1, 1<<31 - uint32(width)}[width%2]
	var l []api.Posting
	for i := range uint32(width) {
		if r.below(3) > 0 {
			l = append(l, api.Posting{Doc: first + i, Pos: r.positions(first + i)})
		}
	}
	return l
}

// spoiltPostings is postings that are changed at a place so that they are no list.
func (r *draws) spoiltPostings(l []api.Posting) []api.Posting {
	l = append(cloned(l), of(1<<31-1, 4))
	i := r.below(len(l))
	p := &l[i]
	switch r.below(8) {
	case 0:
		p.Doc = 0
	case 1:
		p.Doc = 1<<31 + uint32(r.below(9))
	case 2:
		p.Pos = nil
	case 3:
		p.Pos = []int{}
	case 4:
		p.Pos[0] = -1 - r.below(9)
	case 5:
		p.Pos[len(p.Pos)-1] = 1<<20 + 1 + r.below(9)
	case 6:
		p.Pos = append(p.Pos, p.Pos[len(p.Pos)-1-r.below(len(p.Pos))])
	case 7:
		l = slices.Insert(l, i, *p)
	}
	return l
}
