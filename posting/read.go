package posting

import (
	"bytes"
	"iter"

	"incipit/api"
	"incipit/pack"
)

// enough is as many bytes as no posting's form goes beyond: its numbers have five at most.
const enough = 5 * (2 + api.MaxPlace)

// Take answers the posting, behind prev, whose bytes begin at a place of b, and where they end.
func Take(b []byte, at int, prev uint32) (api.Posting, int, api.Errno) {
	if at < 0 || at > len(b) {
		return api.Posting{}, 0, api.ErrArg
	}
	// The reader copies what it is handed: all of the rest would be far more than is asked for.
	rest := b[at:min(len(b), at+enough)]
	r := pack.Read(rest)
	p, err := next(r, prev)
	if err != api.OK {
		return api.Posting{}, 0, err
	}
	return p, at + len(rest) - r.Left(), api.OK
}

// Parse answers the postings whose List b is; ErrPost, if there are none such.
func Parse(b []byte) ([]api.Posting, api.Errno) {
	var l []api.Posting
	read := 0
	for end, p := range each(b, 0) {
		l = append(l, p)
		read = end
	}
	if read < len(b) {
		return nil, api.ErrPost
	}
	return l, api.OK
}

// All tells the postings that b begins with, the first behind prev, each with the place at which its bytes end.
func All(b []byte, prev uint32) iter.Seq2[int, api.Posting] {
	// The owner of the bytes may change them ahead of, and amid, the ranging.
	return each(bytes.Clone(b), prev)
}

// Find answers the posting of a document among those that b begins with; false, if it is not there.
func Find(b []byte, doc uint32) (api.Posting, bool) {
	var found api.Posting
	is := false
postings:
	for _, p := range each(b, 0) {
		switch {
		case p.Doc == doc:
			found, is = p, true
			break postings
		case p.Doc > doc: // they rise, so that it comes no more
			break postings
		}
	}
	return found, is
}

// each is All of bytes that stay as they are till the ranging begins.
func each(b []byte, prev uint32) iter.Seq2[int, api.Posting] {
	return func(yield func(int, api.Posting) bool) {
		r := pack.Read(b)
		last := prev // prev stays: one may range again
		for r.Left() > 0 {
			p, err := next(r, last)
			if err != api.OK || !yield(len(b)-r.Left(), p) {
				return
			}
			last = p.Doc
		}
	}
}

// next takes the posting, behind prev, that the reader's bytes begin with; behind an error the reader is of no more use.
func next(r *pack.Reader, prev uint32) (api.Posting, api.Errno) {
	// A sum that wraps round, here or among the positions, does not rise: Check refuses it.
	p := api.Posting{Doc: prev + r.Var()}
	n := r.Var()
	// Memory is asked for behind this alone: each position has a byte.
	if n > api.MaxPlace || int(n) > r.Left() {
		return api.Posting{}, api.ErrPost
	}
	p.Pos = make([]int, n)
	at := 0
	for i := range p.Pos {
		at += int(r.Var())
		p.Pos[i] = at
	}
	if r.Err() != api.OK || Check(prev, p) != api.OK {
		return api.Posting{}, api.ErrPost
	}
	return p, api.OK
}
