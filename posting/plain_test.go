package posting_test

import (
	"fmt"
	"iter"
	"slices"
	"testing"

	"incipit/api"
	"incipit/posting"
)

// The chapter's own words, done by hand: what the package is held against. Neither it nor the layer below is called here.

// plainShort is a number as a short number: seven bits a byte, the lowest first.
func plainShort(v uint64) []byte {
	if v < 128 {
		return []byte{byte(v)}
	}
	return append([]byte{byte(v%128 + 128)}, plainShort(v/128)...)
}

// plainNumber is the short number that b begins with, and what is behind it; false, if it begins with none.
func plainNumber(b []byte) (uint64, []byte, bool) {
	v, one := uint64(0), uint64(1)
	for i := 0; i < len(b) && i < 5; i++ {
		v += uint64(b[i]%128) * one
		one *= 128
		if b[i] < 128 {
			shortest := slices.Equal(plainShort(v), b[:i+1])
			return v, b[i+1:], shortest && v < 1<<32
		}
	}
	return 0, nil, false
}

// plainMayBe is whether a posting may be behind one of the document prev.
func plainMayBe(prev uint32, p api.Posting) bool {
	if p.Doc <= prev || p.Doc > 2147483647 || len(p.Pos) < 1 || len(p.Pos) > 2000 {
		return false
	}
	for i, pos := range p.Pos {
		if pos < 0 || pos > 1048576 || i > 0 && pos <= p.Pos[i-1] {
			return false
		}
	}
	return true
}

// plainForm is the bytes of a posting that may be behind prev.
func plainForm(prev uint32, p api.Posting) []byte {
	b := append(plainShort(uint64(p.Doc)-uint64(prev)), plainShort(uint64(len(p.Pos)))...)
	b = append(b, plainShort(uint64(p.Pos[0]))...)
	for i := 1; i < len(p.Pos); i++ {
		b = append(b, plainShort(uint64(p.Pos[i]-p.Pos[i-1]))...)
	}
	return b
}

// plainList is the bytes of postings, the first behind prev; false, if one may not be.
func plainList(prev uint32, l []api.Posting) ([]byte, bool) {
	var b []byte
	for _, p := range l {
		if !plainMayBe(prev, p) {
			return nil, false
		}
		b = append(b, plainForm(prev, p)...)
		prev = p.Doc
	}
	return b, true
}

// plainTake is the posting, behind prev, whose bytes b begins with, and how many they are; false, if none that may be begins there.
func plainTake(b []byte, prev uint32) (api.Posting, int, bool) {
	above, rest, is := plainNumber(b)
	count, rest, isToo := plainNumber(rest)
	doc := uint64(prev) + above
	if !is || !isToo || doc > 2147483647 || count > 2000 {
		return api.Posting{}, 0, false
	}
	p := api.Posting{Doc: uint32(doc)}
	pos := uint64(0)
	for range count {
		var more uint64
		if more, rest, is = plainNumber(rest); !is {
			return api.Posting{}, 0, false
		}
		pos += more
		p.Pos = append(p.Pos, int(pos))
	}
	if !plainMayBe(prev, p) {
		return api.Posting{}, 0, false
	}
	return p, len(b) - len(rest), true
}

// ending is a posting, and where its bytes end.
type ending struct {
	end int
	p   api.Posting
}

// plainAll is the postings that b begins with, the first behind prev.
func plainAll(b []byte, prev uint32) []ending {
	var l []ending
	at := 0
	for {
		p, n, is := plainTake(b[at:], prev)
		if !is {
			return l
		}
		at += n
		prev = p.Doc
		l = append(l, ending{at, p})
	}
}

// plainParse is the postings whose List b is; false, if there are none such.
func plainParse(b []byte) ([]api.Posting, bool) {
	all, l := plainAll(b, 0), []api.Posting(nil)
	end := 0
	for _, x := range all {
		l = append(l, x.p)
		end = x.end
	}
	if end < len(b) {
		return nil, false
	}
	return l, true
}

// plainSame is whether two postings have one document and the same positions.
func plainSame(a, b api.Posting) bool { return fmt.Sprint(a) == fmt.Sprint(b) }

// of is a posting.
func of(doc uint32, pos ...int) api.Posting { return api.Posting{Doc: doc, Pos: pos} }

// row is so many positions from the first one on, each so much above the one ahead.
func row(first, step, n int) []int {
	l := make([]int, n)
	for i := range l {
		l[i] = first + i*step
	}
	return l
}

// cloned is the same posting, that nobody else can change.
func cloned(p api.Posting) api.Posting {
	return api.Posting{Doc: p.Doc, Pos: append([]int(nil), p.Pos...)}
}

// allCloned is the same postings, likewise.
func allCloned(l []api.Posting) []api.Posting {
	var c []api.Posting
	for _, p := range l {
		c = append(c, cloned(p))
	}
	return c
}

// isZero is whether a posting is the zero value.
func isZero(p api.Posting) bool { return p.Doc == 0 && p.Pos == nil }

// told is what an iterator tells, up to so many postings; all of them, if that is below 0.
func told(all iter.Seq2[int, api.Posting], most int) []ending {
	var l []ending
	for end, p := range all {
		if len(l) == most {
			break
		}
		l = append(l, ending{end, p})
	}
	return l
}

// text is what stands in a list, short enough to be told.
func text(x any) string { return fmt.Sprintf("%.300s", fmt.Sprint(x)) }

// wantCheck asks for an answer of Check's.
func wantCheck(t *testing.T, what string, prev uint32, p api.Posting, want api.Errno) {
	t.Helper()
	if got := posting.Check(prev, p); got != want {
		t.Fatalf("%s: Check(%d, %s) answers %d, not %d", what, prev, text(p), int(got), int(want))
	}
}

// wantPut holds Check, Put and List of a posting, and the reading of its bytes, against the words.
func wantPut(t *testing.T, prev uint32, p api.Posting) {
	t.Helper()
	is := plainMayBe(prev, p)
	want := api.ErrPost
	if is {
		want = api.OK
	}
	wantCheck(t, "held against the words", prev, p, want)
	for _, ahead := range [][]byte{nil, {}, {0}, {128, 255, 1}} {
		b, err := posting.Put(ahead, prev, p)
		if !is {
			if b != nil || err != api.ErrPost {
				t.Fatalf("Put(%v, %d, %s) answers %s, %d", ahead, prev, text(p), text(b), int(err))
			}
			continue
		}
		form := append(slices.Clone(ahead), plainForm(prev, p)...)
		if !slices.Equal(b, form) || err != api.OK {
			t.Fatalf("Put(%v, %d, %s) answers %s, %d, not %s", ahead, prev, text(p), text(b), int(err), text(form))
		}
		wantTake(t, form, len(ahead), prev)
	}
}

// wantList holds List of postings, and the reading of its bytes, against the words. It answers whether they have bytes.
func wantList(t *testing.T, l []api.Posting) bool {
	t.Helper()
	want, is := plainList(0, l)
	b, err := posting.List(l...)
	if !is {
		if b != nil || err != api.ErrPost {
			t.Fatalf("List(%s) answers %s, %d, not ErrPost", text(l), text(b), int(err))
		}
		return false
	}
	if !slices.Equal(b, want) || err != api.OK {
		t.Fatalf("List(%s) answers %s, %d, not %s", text(l), text(b), int(err), text(want))
	}
	back, err := posting.Parse(b)
	if !slices.EqualFunc(back, l, plainSame) || err != api.OK {
		t.Fatalf("Parse of List(%s) answers %s, %d", text(l), text(back), int(err))
	}
	return true
}

// wantTake holds Take at a place against the words.
func wantTake(t *testing.T, b []byte, at int, prev uint32) {
	t.Helper()
	p, end, err := posting.Take(b, at, prev)
	if at < 0 || at > len(b) {
		if !isZero(p) || end != 0 || err != api.ErrArg {
			t.Fatalf("Take(%s, %d, %d) answers %s, %d, %d, not ErrArg", text(b), at, prev, text(p), end, int(err))
		}
		return
	}
	want, n, is := plainTake(b[at:], prev)
	if !is {
		if !isZero(p) || end != 0 || err != api.ErrPost {
			t.Fatalf("Take(%s, %d, %d) answers %s, %d, %d, not ErrPost", text(b), at, prev, text(p), end, int(err))
		}
		return
	}
	if !plainSame(p, want) || end != at+n || err != api.OK {
		t.Fatalf("Take(%s, %d, %d) answers %s, %d, %d, not %s, %d", text(b), at, prev, text(p), end, int(err), text(want), at+n)
	}
}

// wantTold asks what All tells, once and again.
func wantTold(t *testing.T, b []byte, prev uint32, want []ending) {
	t.Helper()
	all := posting.All(b, prev)
	for range 2 {
		if got := told(all, -1); !slices.EqualFunc(got, want, sameEnding) {
			t.Fatalf("All(%s, %d) tells %s, not %s", text(b), prev, text(got), text(want))
		}
	}
}

func sameEnding(a, b ending) bool { return a.end == b.end && plainSame(a.p, b.p) }

// wantFind asks for an answer of Find's: the posting, or, if that is nil, that there is none.
func wantFind(t *testing.T, b []byte, doc uint32, want *api.Posting) {
	t.Helper()
	p, is := posting.Find(b, doc)
	if want == nil && (is || !isZero(p)) || want != nil && (!is || !plainSame(p, *want)) {
		t.Fatalf("Find(%s, %d) answers %s, %v", text(b), doc, text(p), is)
	}
}

// wantFound holds Find of each document of a list, and of those beside it, against the list.
func wantFound(t *testing.T, b []byte, l []ending) {
	t.Helper()
	there := map[uint32]*api.Posting{}
	for i := range l {
		there[l[i].p.Doc] = &l[i].p
	}
	for _, doc := range []uint32{0, 1, 2, 1<<31 - 1, 1 << 31, 1<<32 - 1} {
		wantFind(t, b, doc, there[doc])
	}
	for _, x := range l {
		for doc := x.p.Doc - 1; doc <= x.p.Doc+1; doc++ {
			wantFind(t, b, doc, there[doc])
		}
	}
}

// wantParse asks that Parse answers postings, or that there are none.
func wantParse(t *testing.T, b []byte, want []api.Posting, is bool) {
	t.Helper()
	got, err := posting.Parse(b)
	switch {
	case is && (err != api.OK || !slices.EqualFunc(got, want, plainSame)):
		t.Fatalf("Parse(%s) is %s, %d, not %s", text(b), text(got), int(err), text(want))
	case !is && (err != api.ErrPost || got != nil):
		t.Fatalf("Parse(%s) is %s, %d, not ErrPost", text(b), text(got), int(err))
	}
}

// wantRead holds all that reads against the words; what is parsed has just these bytes as its List. It answers whether it was parsed.
func wantRead(t *testing.T, b []byte) bool {
	t.Helper()
	l := plainAll(b, 0)
	wantTold(t, b, 0, l)
	wantFound(t, b, l)
	want, is := plainParse(b)
	wantParse(t, b, want, is)
	if !is {
		return false
	}
	got, _ := posting.Parse(b)
	if again, err := posting.List(got...); err != api.OK || !slices.Equal(again, b) {
		t.Fatalf("List of Parse(%s) is %s, %d", text(b), text(again), int(err))
	}
	return true
}

// draws is a rule by which postings and bytes are drawn, always the same of a seed.
type draws uint32

// below draws a number from 0 on, below n.
func (r *draws) below(n int) int {
	*r = *r*1664525 + 1013904223
	return int(uint32(*r)>>8) % n
}

// near draws a number from 0 to most, often one at which short numbers grow, or the greatest.
func (r *draws) near(most int) int {
	var n int
	switch r.below(4) {
	case 0:
		n = []int{0, 1, 2, 127, 128, 129, 16383, 16384, 2097151, 2097152, 268435455, 268435456}[r.below(12)]
	case 1:
		n = most - r.below(3)
	case 2:
		n = r.below(300)
	case 3:
		n = r.below(1 << 24)
	}
	return max(0, min(n, most))
}

// positions draws positions that may be, mostly few.
func (r *draws) positions() []int {
	n := 1 + r.below(4)
	switch r.below(20) {
	case 0:
		n = 1 + r.below(150)
	case 1:
		n = 120 + r.below(20)
	}
	var l []int
	pos := r.near(1 << 20)
	for range n {
		if pos > 1<<20 {
			break
		}
		l = append(l, pos)
		pos += 1 + r.near(1+r.below(1<<20))
	}
	return l
}

// behind draws a posting that may be behind prev; false, if there is no room behind it.
func (r *draws) behind(prev uint32) (api.Posting, bool) {
	if prev >= 1<<31-1 {
		return api.Posting{}, false
	}
	room := 1<<31 - 2 - int(prev)
	if r.below(4) > 0 {
		room = min(room, 1<<uint(r.below(30)))
	}
	return api.Posting{Doc: prev + 1 + uint32(r.near(room)), Pos: r.positions()}, true
}

// list draws postings, each of which may be behind the one ahead, up to so many.
func (r *draws) list(prev uint32, most int) []api.Posting {
	var l []api.Posting
	for range r.below(most + 1) {
		p, is := r.behind(prev)
		if !is {
			break
		}
		l = append(l, p)
		prev = p.Doc
	}
	return l
}

// spoilt is a posting that is changed at one place, and mostly may not be behind prev.
func (r *draws) spoilt(prev uint32, p api.Posting) api.Posting {
	p = cloned(p)
	at := r.below(len(p.Pos))
	switch r.below(8) {
	case 0:
		p.Doc = prev
	case 1:
		p.Doc = prev - uint32(r.below(3))
	case 2:
		p.Doc = 1<<31 + uint32(r.near(1<<31-1))
	case 3:
		p.Pos = p.Pos[:r.below(len(p.Pos)+1)]
	case 4:
		p.Pos[at] = -1 - r.near(1<<40)
	case 5:
		p.Pos[at] = 1<<20 + 1 + r.near(1<<40)
	case 6:
		p.Pos[at] = p.Pos[r.below(len(p.Pos))]
	case 7:
		p.Pos = append(p.Pos, p.Pos[len(p.Pos)-1]+r.below(3)-1)
	}
	return p
}

// bytesNear draws bytes that are near a list's: one's, one's with bytes changed, put in, left out, or any bytes.
func (r *draws) bytesNear() []byte {
	b, _ := plainList(0, r.list(0, 6))
	if r.below(4) == 0 {
		b = make([]byte, r.below(20))
		most := 1 + r.below(256)
		for i := range b {
			b[i] = byte(r.below(most))
		}
	}
	for range r.below(3) {
		if len(b) == 0 {
			break
		}
		i := r.below(len(b))
		switch r.below(5) {
		case 0:
			b[i] = byte(r.below(256))
		case 1:
			b[i]++
		case 2:
			b = slices.Insert(b, i, byte(r.below(4)))
		case 3:
			b = slices.Delete(b, i, i+1)
		case 4:
			b = b[:i]
		}
	}
	return b
}
