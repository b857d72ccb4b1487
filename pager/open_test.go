package pager_test

import (
	"bytes"
	"fmt"
	"slices"
	"testing"

	"incipit/api"
	"incipit/pager"
)

// wantOpen asks what Open makes of an image, held against the same by hand; its error.
func wantOpen(t *testing.T, what string, image []byte) api.Errno {
	t.Helper()
	d := loaded(t, image)
	m, want := plainOpen(image)
	if want != api.OK {
		noPager(t, what, pager.Open, d, 3, want)
		return want
	}
	p, e := pager.Open(d, 3)
	wantErr(t, what, e, api.OK)
	b := &both{t: t, what: what, d: d, p: p, m: m, last: m.clone()}
	b.told("Open")
	if d.Ops() != 0 || d.Waits() != 0 {
		t.Fatalf("%s: Open has written", what)
	}
	return api.OK
}

// lived is what a few commits left: both heads are there, and maps that are the older head's.
func lived(t *testing.T, pages, commits int) *both {
	t.Helper()
	b := formatted(t, pages, 3)
	for i := range commits {
		l := b.takes(2)
		if i > 0 {
			b.ok(b.free(l[0]))
		}
		b.ok(b.commit(bytes.Repeat([]byte{byte(i)}, i*7%33)))
	}
	return b
}

// P9.1: Open of what Format and Commit left tells what the pager tells, and nothing is of this transaction.
func TestOpenOfWhatWasLeft(t *testing.T) {
	for _, pages := range []int{16, 64, 1024, 1025, 2048} {
		for commits := range 6 {
			b := lived(t, pages, commits)
			what := fmt.Sprintf("%d pages, %d commits", pages, commits)
			wantErr(t, what, wantOpen(t, what, b.d.Image()), api.OK)
			q, e := pager.Open(b.d, 64)
			wantErr(t, what, e, api.OK)
			other := &both{t: t, what: what, d: b.d, p: q, m: b.m}
			other.readAll("Open")
			for page := range pages {
				if q.Mine(page) {
					t.Fatalf("%s: page %d is of this transaction", what, page)
				}
			}
		}
	}
}

// P9.1: an open transaction's pages, and those that were let go in it, are as the last commit left them.
func TestOpenAmidATransaction(t *testing.T) {
	b := lived(t, 30, 2)
	old := b.m.taken()
	l := b.takes(4)
	b.ok(b.free(old[len(old)-2]), b.put(l[0], api.KindInner, []byte("later")))
	other := opened(t, b.d, 5)
	if !slices.Equal(other.p.Taken(), old) || other.p.Epoch() != 3 {
		t.Fatal(other.p.Taken(), other.p.Epoch())
	}
	other.readAll("Open")
}

// P9.1: Open of images in which one bit, or one byte, of the heads or the maps is turned: the head that counts may be the older one then, or none.
func TestOpenOfTurnedBytes(t *testing.T) {
	for _, commits := range []int{0, 1, 2, 3} {
		b := lived(t, 14, commits)
		image := b.d.Image()
		seen := map[api.Errno]int{}
		for _, page := range append([]int{0, 1}, b.m.maps...) {
			for at := range 256 {
				for _, turn := range []byte{1, 2, 4, 8, 16, 32, 64, 128, 255} {
					turned := bytes.Clone(image)
					turned[page*256+at] ^= turn
					seen[wantOpen(t, fmt.Sprintf("%d commits, page %d, byte %d turned by %d", commits, page, at, turn), turned)]++
				}
			}
		}
		if seen[api.ErrSum] == 0 || commits == 0 && seen[api.ErrHead] == 0 || commits > 0 && seen[api.OK] == 0 {
			t.Fatal("errors", seen)
		}
	}
}

// laid is an image of so many pages: noughts where heads stand, rubbish elsewhere, but for these pages.
func laid(pages int, puts map[int][]byte) []byte {
	image := rubbish(pages)
	clear(image[:512])
	for p, b := range puts {
		copy(image[p*256:], b)
	}
	return image
}

// mapPage is a page of a free map, in a frame that belongs there.
func mapPage(page int, taken []int, i int) []byte {
	return plainFrame(api.KindMap, page, 5, plainMap(taken, i))
}

// P9.1: Open with one map that is not framed, of another kind, elsewhere, of another epoch, or no free map.
func TestOpenWithOneMap(t *testing.T) {
	taken := []int{0, 1, 3, 6}
	right := mapPage(6, taken, 0)
	beyond := plainMap(taken, 0)
	beyond[1] |= 4 // page 10
	behind := plainMap(taken, 0)
	behind[200] = 1
	last := plainMap(taken, 0)
	last[239] = 128
	torn := slices.Concat(right[:64], make([]byte, 192))
	torn[20] = 1
	for what, c := range map[string]struct {
		page []byte
		want api.Errno
	}{
		"right":                 {right, api.OK},
		"another epoch":         {plainFrame(api.KindMap, 6, 4, plainMap(taken, 0)), api.OK},
		"a far epoch":           {plainFrame(api.KindMap, 6, 1<<64-1, plainMap(taken, 0)), api.OK},
		"noughts":               {make([]byte, 256), api.ErrSum},
		"raw":                   {plainMap(taken, 0), api.ErrSum},
		"torn":                  {torn, api.ErrSum},
		"a leaf":                {plainFrame(api.KindLeaf, 6, 5, plainMap(taken, 0)), api.ErrKind},
		"an inner node":         {plainFrame(api.KindInner, 6, 5, plainMap(taken, 0)), api.ErrKind},
		"a head":                {plainFrame(api.KindHead, 6, 5, plainMap(taken, 0)), api.ErrKind},
		"no kind":               {plainFrame(9, 6, 5, plainMap(taken, 0)), api.ErrKind},
		"another page":          {mapPage(3, taken, 0), api.ErrPage},
		"another page's leaf":   {plainFrame(api.KindLeaf, 3, 5, nil), api.ErrPage},
		"a page there is not":   {plainMapBeyond(6, beyond), api.ErrMap},
		"bits behind all bits":  {plainMapBeyond(6, behind), api.ErrMap},
		"the last bit":          {plainMapBeyond(6, last), api.ErrMap},
		"page 0 is not taken":   {mapPage(6, []int{1, 3, 6}, 0), api.ErrMap},
		"page 1 is not taken":   {mapPage(6, []int{0, 3, 6}, 0), api.ErrMap},
		"the map is not taken":  {mapPage(6, []int{0, 1, 3}, 0), api.ErrMap},
		"none is taken":         {mapPage(6, nil, 0), api.ErrMap},
		"the head's pages only": {mapPage(6, []int{0, 1, 6}, 0), api.OK},
		"all are taken":         {mapPage(6, []int{0, 1, 2, 3, 4, 5, 6, 7, 8, 9}, 0), api.OK},
	} {
		for _, epoch := range []uint64{5, 6} {
			image := laid(10, map[int][]byte{int(epoch % 2): plainHead(epoch, 10, []int{6}, []byte("u")), 6: c.page})
			wantErr(t, what+", by hand", wantOpen(t, what, image), c.want)
		}
	}
}

// plainMapBeyond is a map with bits that belong to no page, in its frame.
func plainMapBeyond(page int, bears []byte) []byte { return plainFrame(api.KindMap, page, 5, bears) }

// P9.1: Open with two maps: each is asked in the head's order, whether they rise or not; what is framed is asked of both ahead of what they bear.
func TestOpenWithTwoMaps(t *testing.T) {
	const pages = 1030
	taken := []int{0, 1, 7, 9, 1000, 1024, 1029}
	beyond := plainMap(taken, 1)
	beyond[1] = 1 // page 1032
	leaf := func(page int) []byte { return plainFrame(api.KindLeaf, page, 5, nil) }
	for what, c := range map[string]struct {
		maps          []int
		first, second []byte
		want          api.Errno
	}{
		"right":                          {[]int{7, 9}, mapPage(7, taken, 0), mapPage(9, taken, 1), api.OK},
		"falling":                        {[]int{9, 7}, mapPage(9, taken, 0), mapPage(7, taken, 1), api.OK},
		"on the last page":               {[]int{1029, 1024}, mapPage(1029, taken, 0), mapPage(1024, taken, 1), api.OK},
		"pages exchanged":                {[]int{7, 9}, mapPage(9, taken, 1), mapPage(7, taken, 0), api.ErrPage},
		"what they bear exchanged":       {[]int{7, 9}, mapPage(7, taken, 1), mapPage(9, taken, 0), api.ErrMap},
		"the first one twice":            {[]int{7, 9}, mapPage(7, taken, 0), mapPage(9, taken, 0), api.ErrMap},
		"the first is a leaf":            {[]int{7, 9}, leaf(7), mapPage(9, taken, 1), api.ErrKind},
		"the second is a leaf":           {[]int{7, 9}, mapPage(7, taken, 0), leaf(9), api.ErrKind},
		"a leaf, and noughts":            {[]int{7, 9}, leaf(7), make([]byte, 256), api.ErrKind},
		"noughts, and a leaf":            {[]int{7, 9}, make([]byte, 256), leaf(9), api.ErrSum},
		"elsewhere, and noughts":         {[]int{7, 9}, mapPage(8, taken, 0), make([]byte, 256), api.ErrPage},
		"no map, and noughts":            {[]int{7, 9}, mapPage(7, nil, 0), make([]byte, 256), api.ErrSum},
		"a page there is not":            {[]int{7, 9}, mapPage(7, taken, 0), plainMapBeyond(9, beyond), api.ErrMap},
		"the first is not taken":         {[]int{8, 9}, mapPage(8, taken, 0), mapPage(9, taken, 1), api.ErrMap},
		"the second is not taken":        {[]int{7, 1025}, mapPage(7, taken, 0), mapPage(1025, taken, 1), api.ErrMap},
		"page 0 is not taken":            {[]int{7, 9}, mapPage(7, taken[1:], 0), mapPage(9, taken, 1), api.ErrMap},
		"both are of different epochs":   {[]int{7, 9}, mapPage(7, taken, 0), plainFrame(api.KindMap, 9, 77, plainMap(taken, 1)), api.OK},
		"exchanged, though both may be":  {[]int{7, 9}, mapPage(7, nil, 0), mapPage(9, []int{0, 1, 7, 9}, 0), api.ErrMap},
		"one that is taken by the other": {[]int{7, 1024}, mapPage(7, taken, 0), mapPage(1024, taken, 1), api.OK},
	} {
		image := laid(pages, map[int][]byte{1: plainHead(5, pages, c.maps, nil), c.maps[0]: c.first, c.maps[1]: c.second})
		wantErr(t, what+", by hand", wantOpen(t, what, image), c.want)
	}
}

// P9.1: which head counts is told by both pages: ErrHead, if none does.
func TestOpenOfHeads(t *testing.T) {
	taken := []int{0, 1, 4, 5}
	older, newer := plainHead(8, 9, []int{4}, []byte("older")), plainHead(9, 9, []int{5}, []byte("newer"))
	maps := func(zero, one []byte) []byte {
		return laid(9, map[int][]byte{0: zero, 1: one, 4: mapPage(4, taken, 0), 5: mapPage(5, taken, 0)})
	}
	noughts := make([]byte, 256)
	for what, c := range map[string]struct {
		zero, one []byte
		want      api.Errno
		user      string
	}{
		"both":                   {older, newer, api.OK, "newer"},
		"the older one":          {older, noughts, api.OK, "older"},
		"the newer one":          {noughts, newer, api.OK, "newer"},
		"far apart":              {plainHead(1<<63, 9, []int{4}, []byte("far")), newer, api.OK, "far"},
		"epoch 0":                {plainHead(0, 9, []int{4}, []byte("nought")), noughts, api.OK, "nought"},
		"exchanged":              {newer, older, api.ErrHead, ""},
		"noughts":                {noughts, noughts, api.ErrHead, ""},
		"of other pages":         {plainHead(8, 10, []int{4}, nil), plainHead(9, 8, []int{5}, nil), api.ErrHead, ""},
		"one of other pages":     {older, plainHead(9, 10, []int{5}, nil), api.OK, "older"},
		"too many maps":          {plainHead(8, 9, []int{4, 5}, nil), noughts, api.ErrHead, ""},
		"a map there is not":     {plainHead(8, 9, []int{9}, nil), noughts, api.ErrHead, ""},
		"a map on a head's page": {plainHead(8, 9, []int{1}, nil), noughts, api.ErrHead, ""},
		"too many bytes":         {plainHead(8, 9, []int{4}, make([]byte, 33)), noughts, api.ErrHead, ""},
		"the most bytes":         {plainHead(8, 9, []int{4}, bytes.Repeat([]byte("m"), 32)), noughts, api.OK, "mmmmmmmmmmmmmmmmmmmmmmmmmmmmmmmm"},
		"a leaf":                 {plainFrame(api.KindLeaf, 0, 8, older[16:]), noughts, api.ErrHead, ""},
	} {
		image := maps(c.zero, c.one)
		wantErr(t, what+", by hand", wantOpen(t, what, image), c.want)
		if c.want != api.OK {
			continue
		}
		if p, e := pager.Open(loaded(t, image), 2); e != api.OK || string(p.User()) != c.user {
			t.Fatalf("%s: user's bytes %q, %d", what, p.User(), int(e))
		}
	}
	for _, pages := range formatSizes {
		wantErr(t, "noughts", wantOpen(t, "noughts", make([]byte, pages*256)), api.ErrHead)
		wantErr(t, "rubbish", wantOpen(t, "rubbish", rubbish(pages)), api.ErrHead)
	}
}

// P9.1: Open asks for no write: it is OK of a device to which nothing is left.
func TestOpenOfAnArmedDevice(t *testing.T) {
	b := lived(t, 20, 2)
	wantErr(t, "Arm", b.d.Arm(0), api.OK)
	other := opened(t, b.d, 2)
	for page := range 20 {
		other.raw(page)
	}
	other.told("Raw")
}

// P9.1: what Open takes of any bytes is what the chapter's words take of them.
func FuzzOpen(f *testing.F) {
	f.Add(plainHead(8, 9, []int{4}, []byte("u")), make([]byte, 256), plainMap([]int{0, 1, 4}, 0), uint8(2))
	f.Add(make([]byte, 256), plainHead(9, 9, []int{4}, nil), plainMap([]int{0, 4}, 0), uint8(2))
	f.Add([]byte{0, 9, 1, 0, 4, 1, 7}, []byte{0, 9, 1, 0, 5}, []byte{255}, uint8(3))
	f.Fuzz(func(t *testing.T, zero, one, bears []byte, kind uint8) {
		image := make([]byte, 9*256)
		copy(image[:256], zero)
		copy(image[256:512], one)
		copy(image[4*256:5*256], plainFrame(int(kind), 4, 1, bears[:min(len(bears), 240)]))
		wantOpen(t, "these bytes", image)
		copy(image, plainFrame(api.KindHead, 0, 2, zero[:min(len(zero), 240)]))
		wantOpen(t, "these bytes, framed", image)
	})
}
