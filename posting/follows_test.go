package posting_test

import (
	"slices"
	"testing"

	"incipit/api"
	"incipit/posting"
)

// wantThereAndBack asks P15.3 of postings that may be, the first behind prev: each is read where it was written.
func wantThereAndBack(t *testing.T, prev uint32, l []api.Posting) {
	t.Helper()
	var b []byte
	var ends []ending
	last := prev
	for _, p := range l {
		at := len(b)
		var err api.Errno
		if b, err = posting.Put(b, last, p); err != api.OK {
			t.Fatalf("Put(%d, %s) answers %d", last, text(p), int(err))
		}
		back, end, err := posting.Take(b, at, last)
		if err != api.OK || end != len(b) || !posting.Same(back, p) || !plainSame(back, p) {
			t.Fatalf("Take of Put(%d, %s) answers %s, %d, %d", last, text(p), text(back), end, int(err))
		}
		ends = append(ends, ending{end, p})
		last = p.Doc
	}
	wantTold(t, b, prev, ends)
	if prev > 0 {
		return
	}
	back, err := posting.Parse(b)
	if err != api.OK || !slices.EqualFunc(back, l, posting.Same) {
		t.Fatalf("Parse of List(%s) answers %s, %d", text(l), text(back), int(err))
	}
	for _, p := range l {
		wantFind(t, b, p.Doc, &p)
	}
}

// P15.3: what was written is read.
func TestThereAndBack(t *testing.T) {
	r := draws(4)
	for range 3000 {
		wantThereAndBack(t, 0, r.list(0, 8))
		prev := uint32(r.near(1<<31 - 1))
		wantThereAndBack(t, prev, r.list(prev, 8))
	}
	for _, l := range some() {
		wantThereAndBack(t, 0, l)
	}
}

// wantBackAndThere asks P15.3 of any bytes: what is read at a place has just the bytes that were read.
func wantBackAndThere(t *testing.T, b []byte, at int, prev uint32) bool {
	t.Helper()
	p, end, err := posting.Take(b, at, prev)
	if err != api.OK {
		return false
	}
	again, err := posting.Put(b[:at], prev, p)
	if err != api.OK || !slices.Equal(again, b[:end]) {
		t.Fatalf("Put of Take(%s, %d, %d) is %s, %d", text(b), at, prev, text(again), int(err))
	}
	return true
}

// P15.3: bytes that are read are just those that are written of what was read; no other bytes are read as the same.
func TestBackAndThere(t *testing.T) {
	r := draws(5)
	met := 0
	for range 20000 {
		b := r.bytesNear()
		if wantBackAndThere(t, b, r.below(len(b)+1), uint32(r.near(1<<31-1))) {
			met++
		}
		if l, err := posting.Parse(b); err == api.OK {
			if again, err := posting.List(l...); err != api.OK || !slices.Equal(again, b) {
				t.Fatalf("List of Parse(%s) is %s, %d", text(b), text(again), int(err))
			}
		}
	}
	if met < 2000 {
		t.Error("only so many were read:", met)
	}
	one, other := r.list(0, 3), r.list(0, 3)
	for range 2000 {
		a, _ := posting.List(one...)
		b, _ := posting.List(other...)
		if slices.Equal(a, b) != slices.EqualFunc(one, other, posting.Same) {
			t.Fatalf("%s and %s have the bytes %s and %s", text(one), text(other), text(a), text(b))
		}
		one, other = other, r.list(0, 3)
	}
}

// wantOn asks P15.4 of a list that is cut in two: the later ones are put behind the bytes of the earlier ones, and the last one's document.
func wantOn(t *testing.T, l []api.Posting, cut int) {
	t.Helper()
	b, err := posting.List(l[:cut]...)
	prev := uint32(0)
	if cut > 0 {
		prev = l[cut-1].Doc
	}
	for _, p := range l[cut:] {
		if err == api.OK {
			b, err = posting.Put(b, prev, p)
		}
		prev = p.Doc
	}
	whole, wholeErr := posting.List(l...)
	if err != wholeErr || !slices.Equal(b, whole) {
		t.Fatalf("%s, gone on with at %d, is %s, %d, not %s, %d", text(l), cut, text(b), int(err), text(whole), int(wholeErr))
	}
}

// P15.4: postings behind others, put behind their bytes and the last one's Doc, are the List of all.
func TestOn(t *testing.T) {
	r := draws(6)
	for i := range 2000 {
		l := r.list(0, 9)
		for cut := range len(l) + 1 {
			wantOn(t, l, cut)
			b := formOf(t, l)
			at := len(formOf(t, l[:cut]))
			prev := uint32(0)
			if cut > 0 {
				prev = l[cut-1].Doc
			}
			later := told(posting.All(b[at:], prev), -1)
			if len(later) != len(l)-cut {
				t.Fatalf("behind the place %d All(%s) tells %s", at, text(b), text(later))
			}
		}
		if len(l) > 0 && i%2 == 0 {
			l[r.below(len(l))] = r.spoilt(uint32(r.below(9)), l[0])
			for cut := range len(l) + 1 {
				wantOn(t, l, cut)
			}
		}
	}
	for _, l := range some() {
		for cut := range len(l) + 1 {
			wantOn(t, l, cut)
		}
	}
}

// wantRising asks P15.5 of any bytes.
func wantRising(t *testing.T, b []byte, prev uint32) {
	t.Helper()
	last, at := prev, 0
	var l []api.Posting
	for end, p := range posting.All(b, prev) {
		if p.Doc <= last || end <= at || end > len(b) {
			t.Fatalf("behind %d, at %d, All(%s, %d) tells %s, %d", last, at, text(b), prev, text(p), end)
		}
		wantCheck(t, "what All tells", last, p, api.OK)
		back, takenEnd, err := posting.Take(b, at, last)
		if err != api.OK || takenEnd != end || !posting.Same(back, p) {
			t.Fatalf("Take(%s, %d, %d) answers %s, %d, %d, All tells %s, %d", text(b), at, last, text(back), takenEnd, int(err), text(p), end)
		}
		last, at = p.Doc, end
		l = append(l, p)
	}
	if _, _, err := posting.Take(b, at, last); err != api.ErrPost {
		t.Fatalf("All(%s, %d) ends at %d, where Take answers %d", text(b), prev, at, int(err))
	}
	if prev > 0 {
		return
	}
	if far, err := posting.Parse(b[:at]); err != api.OK || !slices.EqualFunc(far, l, posting.Same) {
		t.Fatalf("All(%s, 0) tells %s, Parse of them is %s, %d", text(b), text(l), text(far), int(err))
	}
	whole, err := posting.Parse(b)
	if at == len(b) && (err != api.OK || !slices.EqualFunc(whole, l, posting.Same)) || at < len(b) && (err != api.ErrPost || whole != nil) {
		t.Fatalf("All(%s, 0) tells %s, up to %d, Parse answers %s, %d", text(b), text(l), at, text(whole), int(err))
	}
}

// P15.5: what All tells rises, and is what Parse tells, as far as that goes.
func TestRising(t *testing.T) {
	r := draws(7)
	for range 10000 {
		b := r.bytesNear()
		wantRising(t, b, 0)
		wantRising(t, b, uint32(r.near(1<<32-1)))
	}
	for _, l := range some() {
		b := formOf(t, l)
		for n := range len(b) + 1 {
			wantRising(t, b[:n], 0)
		}
	}
}

// drawnPostings makes postings of bytes by a rule, so that any bytes are some: ones that may be, and ones that may not.
func drawnPostings(b []byte) []api.Posting {
	next := func() int {
		if len(b) == 0 {
			return 0
		}
		x := int(b[0])
		b = b[1:]
		return x
	}
	var l []api.Posting
	doc, pos := uint32(0), 0
	for len(b) > 0 && len(l) < 50 {
		doc += uint32(next()) << uint(next()%32)
		p := api.Posting{Doc: doc}
		pos = next() - 3
		for n := next() % 9; n > 0; n-- {
			p.Pos = append(p.Pos, pos)
			pos += next() << uint(next()%64)
		}
		l = append(l, p)
	}
	return l
}

func FuzzPostings(f *testing.F) {
	f.Add([]byte{3, 0, 3, 2, 5, 0, 0, 0, 149, 1, 10, 1, 0, 0})
	f.Add([]byte{1, 30, 4, 1, 1, 20, 255, 22, 4, 2, 1, 19, 1, 1})
	f.Add([]byte{1, 0, 0, 1, 0, 0, 1, 0, 9, 8, 1, 0, 1, 1, 1, 63})
	f.Fuzz(func(t *testing.T, b []byte) {
		l := drawnPostings(b)
		is := wantList(t, l)
		prev := uint32(0)
		for _, p := range l {
			wantPut(t, prev, p)
			if !posting.Same(posting.Clone(p), p) {
				t.Fatalf("Clone(%s)", text(p))
			}
			prev = p.Doc
		}
		for cut := range len(l) + 1 {
			wantOn(t, l, cut)
		}
		if is {
			wantThereAndBack(t, 0, l)
			wantRising(t, formOf(t, l), 0)
		}
		wantRising(t, b, 0)
	})
}
