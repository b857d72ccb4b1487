package posting_test

import (
	"bytes"
	"math"
	"slices"
	"testing"

	"incipit/api"
	"incipit/posting"
)

// some are lists of postings of all sorts, with short numbers of all lengths.
func some() [][]api.Posting {
	return [][]api.Posting{
		{of(3, 0, 5), of(300, 7)},
		{of(1, 0)},
		{of(1<<31-1, 1<<20)},
		{of(128, 128, 256, 1<<20), of(16512, 0, 1, 2), of(16513, 16384)},
		{of(268435456, 0), of(1<<31-2, 1<<20-1, 1<<20), of(1<<31-1, 3)},
		{of(2, row(0, 1, 130)...), of(4, row(300, 300, 9)...)},
		{of(127, 127), of(254, 127, 254), of(382, 128, 256)},
	}
}

// formOf is the bytes of postings that may be.
func formOf(t *testing.T, l []api.Posting) []byte {
	t.Helper()
	b, is := plainList(0, l)
	if !is {
		t.Fatalf("%s may not be", text(l))
	}
	return b
}

// P15.2: Take at each place of bytes, and at places that there are not.
func TestTakeAtEachPlace(t *testing.T) {
	for _, l := range append(some(), nil) {
		b := formOf(t, l)
		for at := -3; at <= len(b)+3; at++ {
			for _, prev := range docs() {
				wantTake(t, b, at, prev)
			}
		}
		for _, at := range []int{math.MinInt, math.MinInt + 1, -1 << 32, -1<<32 + 1, 1 << 31, 1 << 32, 1<<32 + 1, math.MaxInt - 5000, math.MaxInt - 1, math.MaxInt} {
			for _, prev := range docs() {
				wantTake(t, b, at, prev)
			}
		}
		at, prev := 0, uint32(0)
		for _, p := range l {
			got, end, err := posting.Take(b, at, prev)
			if !plainSame(got, p) || err != api.OK || end != at+len(plainForm(prev, p)) {
				t.Fatalf("Take at %d of %s answers %s, %d, %d", at, text(b), text(got), end, int(err))
			}
			at, prev = end, p.Doc
		}
		if _, _, err := posting.Take(b, at, prev); at != len(b) || err != api.ErrPost {
			t.Fatalf("Take at the end answers %d", int(err))
		}
		if _, _, err := posting.Take(b, at+1, prev); err != api.ErrArg {
			t.Fatalf("Take behind the end answers %d", int(err))
		}
	}
}

// P15.2, R2: of no bytes Take answers ErrPost at 0, ErrArg at all other places.
func TestTakeOfNoBytes(t *testing.T) {
	for _, b := range [][]byte{nil, {}, make([]byte, 0, 9), []byte{1, 1, 0}[:0]} {
		for _, prev := range docs() {
			for at := -2; at < 4; at++ {
				wantTake(t, b, at, prev)
			}
		}
	}
}

// P15.2: Take of bytes that are cut off behind each byte, also where more bytes stand in the same memory.
func TestTakeOfBytesCutOff(t *testing.T) {
	for _, l := range some() {
		b := formOf(t, l)
		for n := range b {
			for at := range n + 2 {
				wantTake(t, b[:n], at, 0)
				wantTake(t, b[:n], at, 3)
			}
		}
		first := len(plainForm(0, l[0]))
		for n := range first {
			if p, end, err := posting.Take(b[:n], 0, 0); !isZero(p) || end != 0 || err != api.ErrPost {
				t.Fatalf("cut off behind %d bytes: %s, %d, %d", n, text(p), end, int(err))
			}
		}
	}
}

// P15.2: Take of bytes that have each byte changed, to each other byte.
func TestTakeOfBytesWithAByteChanged(t *testing.T) {
	for _, l := range some() {
		b := formOf(t, l)
		for i := range b {
			was := b[i]
			for x := range 256 {
				b[i] = byte(x)
				wantTake(t, b, 0, 0)
				wantTake(t, b, 0, 1<<31-200)
				if at := len(plainForm(0, l[0])); i >= at {
					wantTake(t, b, at, l[0].Doc)
				}
			}
			b[i] = was
		}
	}
}

// P15.2: short numbers that are not the shortest, or too great, in place of each number.
func TestTakeOfShortNumbers(t *testing.T) {
	for what, b := range map[string][]byte{
		"no document":                        {},
		"a document above by 0":              {0, 1, 5},
		"a document in a byte too many":      {131, 0, 1, 5},
		"0 in two bytes":                     {128, 0, 1, 5},
		"a document in five bytes, not four": {255, 255, 255, 255, 0, 1, 5},
		"a document of 2^31":                 {128, 128, 128, 128, 8, 1, 5},
		"a document of 2^32 - 1":             {255, 255, 255, 255, 15, 1, 5},
		"a document of 2^32":                 {128, 128, 128, 128, 16, 1, 5},
		"a document of 2^32 + 3":             {131, 128, 128, 128, 16, 1, 5},
		"a document in six bytes":            {131, 128, 128, 128, 128, 1, 1, 5},
		"a document that does not end":       {131, 131, 131},
		"no count":                           {3},
		"no positions":                       {3, 0},
		"no positions, and a byte":           {3, 0, 5},
		"a count in a byte too many":         {3, 129, 0, 5},
		"a count that does not end":          {3, 129},
		"2^32 + 1 positions":                 {3, 129, 128, 128, 128, 16, 5, 1, 1},
		"one position, no byte":              {3, 1},
		"two positions, one byte":            {3, 2, 5},
		"a position in a byte too many":      {3, 1, 133, 0},
		"a position that does not end":       {3, 1, 133},
		"a position of MaxPos and one more":  {3, 1, 129, 128, 64},
		"a position of 2^32":                 {3, 1, 128, 128, 128, 128, 16},
		"a position of 2^32 + 5":             {3, 1, 133, 128, 128, 128, 16},
		"a position of 2^32 - 1":             {3, 1, 255, 255, 255, 255, 15},
		"a second one above by 0":            {3, 2, 5, 0},
		"a third one above by 0":             {3, 3, 5, 1, 0},
		"a second one in a byte too many":    {3, 2, 5, 129, 0},
		"a second one above MaxPos":          {3, 2, 128, 128, 64, 1},
		"a second one by 2^32 - 5 above 5":   {3, 2, 5, 251, 255, 255, 255, 15},
		"a second one by 2^32 - 4 above 5":   {3, 2, 5, 252, 255, 255, 255, 15},
		"a third one that wraps round":       {3, 3, 5, 255, 255, 255, 255, 15, 2},
		"the number of four bytes":           {0, 0, 0, 3, 1, 5},
	} {
		for _, behind := range [][]byte{nil, {0}, {1, 1, 1}, bytes.Repeat([]byte{1}, 3000)} {
			long := slices.Concat(b, behind)
			wantTake(t, long, 0, 0)
			wantRead(t, long)
			if _, _, err := posting.Take(b, 0, 0); err != api.ErrPost {
				t.Errorf("%s: %v is a posting", what, b)
			}
			wantParse(t, b, nil, len(b) == 0)
		}
	}
	for _, b := range [][]byte{{3, 1, 5}, {255, 255, 255, 255, 7, 1, 5}, {3, 1, 128, 128, 64}, {3, 2, 255, 255, 63, 1}, {3, 2, 0, 128, 128, 64}, {131, 1, 1, 5}} {
		wantTake(t, b, 0, 0)
		if _, end, err := posting.Take(b, 0, 0); err != api.OK || end != len(b) {
			t.Errorf("%v is no posting", b)
		}
		wantRead(t, b)
	}
}

// P15.2: Take of a posting that may not be behind prev, and one that may: the number of the document counts, not the byte.
func TestTakeBehindADocument(t *testing.T) {
	for _, prev := range docs() {
		for _, above := range docs() {
			b := append(plainShort(uint64(above)), 1, 5)
			wantTake(t, b, 0, prev)
			p, end, err := posting.Take(b, 0, prev)
			doc := uint64(prev) + uint64(above)
			if above == 0 || doc > 1<<31-1 {
				if err != api.ErrPost || end != 0 || !isZero(p) {
					t.Errorf("%d above %d: %v, %d, %d", above, prev, p, end, int(err))
				}
			} else if err != api.OK || end != len(b) || uint64(p.Doc) != doc {
				t.Errorf("%d above %d: %v, %d, %d", above, prev, p, end, int(err))
			}
		}
	}
}

// P15.2: how many positions more than there are bytes for, and more than there may be.
func TestTakeOfTooManyPositions(t *testing.T) {
	for _, n := range []int{1, 2, 3, 127, 128, 129, 1999, 2000, 2001, 2002, 2047, 2048, 16383, 16384, 65536, 65537, 1 << 20, 1 << 24, 1<<31 - 1, 1 << 31, 1<<32 - 1} {
		ahead := append([]byte{3}, plainShort(uint64(n))...)
		for _, m := range []int{0, 1, 2, 126, 127, 128, 1998, 1999, 2000, 2001, 2002, 3000} {
			b := append(slices.Clone(ahead), bytes.Repeat([]byte{1}, m)...)
			wantTake(t, b, 0, 0)
			wantTold(t, b, 0, plainAll(b, 0))
			if p, end, err := posting.Take(b, 0, 0); n <= 2000 && m >= n {
				if err != api.OK || end != len(ahead)+n || len(p.Pos) != n {
					t.Errorf("%d positions of %d bytes: %s, %d, %d", n, m, text(p), end, int(err))
				}
			} else if err != api.ErrPost {
				t.Errorf("%d positions of %d bytes: %d", n, m, int(err))
			}
		}
	}
}

// P15.2: the longest posting there is is taken whole, wherever it stands and whatever stands behind it.
func TestTakeOfTheLongestPosting(t *testing.T) {
	var pos []int
	for i := range 2000 {
		pos = append(pos, 16384+i) // the first one in three bytes
	}
	for _, p := range []api.Posting{of(1<<31-1, pos...), of(1<<31-1, row(40, 524, 2000)...), of(1<<31-1, append(row(0, 16384, 64), 1<<20)...)} {
		form := plainForm(0, p)
		for _, ahead := range []int{0, 1, 5000} {
			for _, behind := range []int{0, 1, 20000} {
				b := slices.Concat(make([]byte, ahead), form, bytes.Repeat([]byte{255}, behind))
				got, end, err := posting.Take(b, ahead, 0)
				if !plainSame(got, p) || end != ahead+len(form) || err != api.OK {
					t.Fatalf("Take of the longest: %s, %d, %d", text(got), end, int(err))
				}
			}
		}
		wantRead(t, form)
	}
}

// P15.2: Parse of what List answers, of that cut off behind each byte, and of one byte more.
func TestParseOfBytesCutOff(t *testing.T) {
	for _, l := range some() {
		b := formOf(t, l)
		wantParse(t, b, l, true)
		ends := map[int]int{0: 0} // how many postings end there
		for i, x := range plainAll(b, 0) {
			ends[x.end] = i + 1
		}
		for n := range b {
			count, is := ends[n]
			wantParse(t, b[:n], l[:count], is)
			wantRead(t, b[:n])
		}
		for x := range 256 {
			more := append(slices.Clone(b), byte(x))
			wantParse(t, more, nil, false)
			wantRead(t, more)
		}
	}
}

// P15.2: Parse of bytes that have each byte changed, to each other byte; what is parsed has just these bytes as its List.
func TestParseOfBytesWithAByteChanged(t *testing.T) {
	met := 0
	for _, l := range some() {
		b := formOf(t, l)
		if len(b) > 100 {
			b = formOf(t, l[1:]) // the others tell of long ones
		}
		for i := range b {
			was := b[i]
			for x := range 256 {
				b[i] = byte(x)
				if wantRead(t, b) {
					met++
				}
			}
			b[i] = was
		}
	}
	if met < 1000 {
		t.Error("of the bytes that were changed too few are a List:", met)
	}
}

// P15.2, R4: no bytes are the List of no postings.
func TestParseOfNoBytes(t *testing.T) {
	for _, b := range [][]byte{nil, {}, make([]byte, 0, 9), []byte{1, 1, 0}[:0]} {
		wantParse(t, b, nil, true)
		wantRead(t, b)
	}
}

// P15.2: Parse of postings of which the first, the second, or the last may not be.
func TestParseOfPostingsThatMayNotBe(t *testing.T) {
	for n := 1; n < 6; n++ {
		for i := range n {
			for _, bad := range [][]byte{{0, 1, 5}, {1, 0}, {1, 2, 5, 0}, {1, 2, 128, 128, 64, 1}, {129, 0, 1, 5}, {255, 255, 255, 255, 15, 1, 5}, {128, 128, 128, 128, 8, 1, 5}} {
				var b []byte
				for k := range n {
					if k == i {
						b = append(b, bad...)
					} else {
						b = append(b, 2, 1, byte(k))
					}
				}
				wantParse(t, b, nil, false)
				wantRead(t, b)
				if got := told(posting.All(b, 0), -1); len(got) != i {
					t.Errorf("All(%v) tells %v", b, got)
				}
			}
		}
	}
	past := append(plainForm(0, of(1<<31-1, 1)), 1, 1, 1)
	wantParse(t, past, nil, false)
	wantRead(t, past)
}

// P15.2: Parse of drawn bytes, held against a plain reading by the chapter's words.
func TestParseOfDrawnBytes(t *testing.T) {
	r := draws(2)
	met := 0
	for range 20000 {
		b := r.bytesNear()
		if wantRead(t, b) {
			met++
		}
		at, prev := r.below(len(b)+1), uint32(r.near(1<<32-1))
		wantTake(t, b, at, prev)
		wantTold(t, b[at:], prev, plainAll(b[at:], prev))
	}
	if met < 5000 || met > 18000 {
		t.Error("of the bytes that were drawn too few are of one sort:", met)
	}
}

// P15.2: all that reads of all short bytes, held against a plain reading.
func TestReadAllShortBytes(t *testing.T) {
	b := make([]byte, 0, 6)
	var all func()
	all = func() {
		wantRead(t, b)
		wantTake(t, b, len(b)/2, 1<<31-3)
		if len(b) == 6 {
			return
		}
		for _, x := range []byte{0, 1, 2, 3, 128, 129} {
			b = append(b, x)
			all()
			b = b[:len(b)-1]
		}
	}
	all()
}

// P15.2, R3: All is gone through to the end, left behind each posting, and gone through again.
func TestAllIsLeftAndGoneThroughAgain(t *testing.T) {
	for _, l := range some() {
		b := formOf(t, l)
		want := plainAll(b, 0)
		if len(want) != len(l) || want[len(l)-1].end != len(b) {
			t.Fatal("the plain reading of", text(l))
		}
		all := posting.All(b, 0)
		for most := range len(l) + 2 {
			for range 2 {
				if got := told(all, most); !slices.EqualFunc(got, want[:min(most, len(want))], sameEnding) {
					t.Fatalf("left behind %d All(%s, 0) tells %s", most, text(b), text(got))
				}
			}
			if got := told(all, -1); !slices.EqualFunc(got, want, sameEnding) {
				t.Fatalf("behind having been left All(%s, 0) tells %s", text(b), text(got))
			}
		}
		n := 0
		for range all { // one within the other
			for range all {
				n++
			}
		}
		if n != len(l)*len(l) {
			t.Fatalf("one within the other All(%s, 0) tells %d", text(b), n)
		}
	}
}

// P15.2: All behind a document that is not 0, from each posting on, and behind ones behind which there is no room.
func TestAllBehindADocument(t *testing.T) {
	for _, l := range some() {
		b := formOf(t, l)
		at, prev := 0, uint32(0)
		for i, p := range l {
			var want []ending
			for _, x := range plainAll(b, 0)[i:] {
				want = append(want, ending{x.end - at, x.p})
			}
			wantTold(t, b[at:], prev, want)
			at, prev = at+len(plainForm(prev, p)), p.Doc
		}
		for _, prev := range docs() {
			wantTold(t, b, prev, plainAll(b, prev))
		}
	}
	b := []byte{1, 1, 0, 1, 1, 0, 1, 1, 0}
	wantTold(t, b, 7, []ending{{3, of(8, 0)}, {6, of(9, 0)}, {9, of(10, 0)}})
	wantTold(t, b, 1<<31-3, []ending{{3, of(1<<31-2, 0)}, {6, of(1<<31-1, 0)}})
	wantTold(t, b, 1<<31-1, nil)
	wantTold(t, b, 1<<31, nil)
	wantTold(t, b, 1<<32-1, nil)
}

// P15.2, R3: the bytes are changed ahead of the ranging, amid it, and behind it, as is what was told.
func TestAllOfBytesThatAreChanged(t *testing.T) {
	for _, l := range some() {
		b := formOf(t, l)
		want := plainAll(b, 0)
		all := posting.All(b, 0)
		n := 0
		for end, p := range all {
			if !sameEnding(ending{end, p}, want[n]) {
				t.Fatalf("amid the changes All tells %d, %s, not %s", end, text(p), text(want[n]))
			}
			for i := range b {
				b[i] ^= byte(1 + n)
			}
			scribble(p)
			n++
		}
		clear(b)
		if got := told(all, -1); n != len(want) || !slices.EqualFunc(got, want, sameEnding) {
			t.Fatalf("behind the changes All tells %s, not %s", text(got), text(want))
		}
	}
	b := []byte{3, 1, 5}
	all := posting.All(b, 0)
	copy(b, []byte{4, 1, 6})
	if got := told(all, -1); len(got) != 1 || !plainSame(got[0].p, of(3, 5)) {
		t.Errorf("changed ahead of the ranging All tells %v", got)
	}
}

// P15.2: Find of each document that is there, of ones between, ahead of the first, and behind the last.
func TestFind(t *testing.T) {
	for _, l := range some() {
		b := formOf(t, l)
		wantFound(t, b, plainAll(b, 0))
		for i := range l {
			wantFind(t, b, l[i].Doc, &l[i])
			if i > 0 && l[i].Doc > l[i-1].Doc+1 {
				wantFind(t, b, l[i-1].Doc+1, nil)
				wantFind(t, b, l[i].Doc-1, nil)
			}
		}
		if l[0].Doc > 1 {
			wantFind(t, b, l[0].Doc-1, nil)
			wantFind(t, b, 1, nil)
		}
		last := l[len(l)-1].Doc
		wantFind(t, b, last+1, nil)
		wantFind(t, b, 0, nil)
		wantFind(t, b, 1<<32-1, nil)
	}
	for _, doc := range docs() {
		wantFind(t, nil, doc, nil)
		wantFind(t, []byte{}, doc, nil)
	}
	var l []api.Posting
	for i := range 300 {
		l = append(l, of(uint32(5+3*i), i, 2*i+1))
	}
	wantFound(t, formOf(t, l), plainAll(formOf(t, l), 0))
}

// P15.2: Find of bytes whose later part is no posting: what is ahead of it is found, what seems to be behind it is not.
func TestFindOfBytesThatAreNoList(t *testing.T) {
	first, second := of(3, 0, 5), of(300, 7)
	b := []byte{3, 2, 0, 5, 169, 2, 1, 7}
	for _, bad := range [][]byte{{0}, {1}, {1, 0}, {1, 1}, {1, 2, 5}, {1, 2, 5, 0}, {129, 0, 1, 1}, {255, 255, 255, 255, 15, 1, 1}, {128}, {255, 255, 255, 255, 255}} {
		long := slices.Concat(b, bad)
		wantFind(t, long, 3, &first)
		wantFind(t, long, 300, &second)
		wantFind(t, long, 301, nil)
		wantRead(t, long)
		long = slices.Concat(b[:4], bad, b[4:])
		wantFind(t, long, 3, &first)
		wantRead(t, long)
		wantRead(t, slices.Concat(bad, b))
	}
	for n := range b {
		var want, wantSecond *api.Posting
		if n >= 4 {
			want = &first
		}
		wantFind(t, b[:n], 3, want)
		wantFind(t, b[:n], 300, wantSecond)
	}
}

func FuzzRead(f *testing.F) {
	r := draws(3)
	for range 40 {
		f.Add(r.bytesNear(), r.below(9), uint32(r.near(1<<32-1)))
	}
	f.Fuzz(func(t *testing.T, b []byte, at int, prev uint32) {
		wantRead(t, b)
		wantTake(t, b, at, prev)
		wantTold(t, b, prev, plainAll(b, prev))
		wantFind(t, b, prev, foundBy(b, prev))
	})
}

// foundBy is the posting of a document among those that b begins with, or nil.
func foundBy(b []byte, doc uint32) *api.Posting {
	for _, x := range plainAll(b, 0) {
		if x.p.Doc == doc {
			return &x.p
		}
	}
	return nil
}
