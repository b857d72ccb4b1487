package list

import (
	"cmp"
	"slices"

	"incipit/api"
	"incipit/posting"
)

// Docs answers the documents of postings, as they stand.
func Docs(l []api.Posting) []uint32 {
	docs := make([]uint32, len(l))
	for i, p := range l {
		docs[i] = p.Doc
	}
	return docs
}

// Merge answers the postings of all documents that any list has, each with its positions in all of them; ErrLong, if one has too many.
func Merge(l ...[]api.Posting) ([]api.Posting, api.Errno) {
	if err := checkPostings(l...); err != api.OK {
		return nil, err
	}
	rest := slices.Concat(l...)
	slices.SortFunc(rest, byDoc)
	var merged []api.Posting
	for len(rest) > 0 {
		n := sameDoc(rest)
		p := together(rest[:n])
		if len(p.Pos) > api.MaxPlace {
			return nil, api.ErrLong
		}
		merged, rest = append(merged, p), rest[n:]
	}
	return merged, api.OK
}

// Phrase answers the postings of words in a row: the places from which on each word's list has one, as far on as the word's offset says.
func Phrase(offsets []int, l ...[]api.Posting) ([]api.Posting, api.Errno) {
	if !offsetsMayBe(offsets) || len(offsets) != len(l) {
		return nil, api.ErrArg
	}
	if err := checkPostings(l...); err != api.OK {
		return nil, err
	}
	row := l[0]
	for i, word := range l { // the first one, too, so that the row is in memory of its own
		row = inRow(row, word, offsets[i])
	}
	return row, api.OK
}

// checkPostings answers ErrList, if any is no list of postings.
func checkPostings(lists ...[]api.Posting) api.Errno {
	for _, l := range lists {
		prev := uint32(0)
		for _, p := range l {
			if posting.Check(prev, p) != api.OK {
				return api.ErrList
			}
			prev = p.Doc
		}
	}
	return api.OK
}

// offsetsMayBe answers whether a phrase's words may stand so.
func offsetsMayBe(offsets []int) bool {
	if len(offsets) < 1 || len(offsets) > api.MaxPhrase || offsets[0] != 0 {
		return false
	}
	for i := 1; i < len(offsets); i++ {
		if offsets[i] <= offsets[i-1] || offsets[i] > api.MaxPos {
			return false
		}
	}
	return true
}

func byDoc(a, b api.Posting) int { return cmp.Compare(a.Doc, b.Doc) }

// sameDoc answers how many postings that stand first are of one document.
func sameDoc(l []api.Posting) int {
	n := 1
	for n < len(l) && l[n].Doc == l[0].Doc {
		n++
	}
	return n
}

// together answers postings of one document as one.
func together(l []api.Posting) api.Posting {
	var pos []int
	for _, p := range l {
		pos = append(pos, p.Pos...)
	}
	slices.Sort(pos)
	return api.Posting{Doc: l[0].Doc, Pos: slices.Compact(pos)}
}

// inRow answers of postings the positions from which on word has one, as far on as offset says.
func inRow(row, word []api.Posting, offset int) []api.Posting {
	order := func(pos, at int) int { return cmp.Compare(pos+offset, at) }
	var l []api.Posting
	for p, w := range meetings(row, word, byDoc) {
		fit := api.Posting{Doc: p.Doc}
		for pos := range meetings(p.Pos, w.Pos, order) {
			fit.Pos = append(fit.Pos, pos)
		}
		if len(fit.Pos) > 0 {
			l = append(l, fit)
		}
	}
	return l
}
