package tree_test

import (
	"bytes"
	"fmt"
	"maps"
	"slices"
	"testing"

	"incipit/api"
	"incipit/disk"
	"incipit/pager"
	"incipit/tree"
)

// both is a tree beside a plain map: what is done is done with both, and the answers are held against each other.
type both struct {
	t      *testing.T
	what   string
	d      *disk.Disk
	p      *pager.Pager
	x      *tree.Tree
	m      map[string]string
	last   map[string]string // what the last commit had that was OK
	others []int             // pages that somebody else took
	full   int               // how often ErrFull was the answer
}

func wantErr(t *testing.T, what string, got, want api.Errno) {
	t.Helper()
	if got != want {
		t.Fatalf("%s answers error %d, not %d", what, int(got), int(want))
	}
}

// formatted is a pager of a new device.
func formatted(t *testing.T, pages, size int) (*disk.Disk, *pager.Pager) {
	t.Helper()
	d, e := disk.New(pages)
	wantErr(t, "disk.New", e, api.OK)
	p, e := pager.Format(d, size)
	wantErr(t, "pager.Format", e, api.OK)
	return d, p
}

// at is the tree at that root.
func at(t *testing.T, p *pager.Pager, root, height int) *tree.Tree {
	t.Helper()
	x, e := tree.At(p, root, height)
	wantErr(t, fmt.Sprintf("At(%d, %d)", root, height), e, api.OK)
	return x
}

// empty is the empty tree of a new device.
func empty(t *testing.T, pages, size int) *both {
	t.Helper()
	d, p := formatted(t, pages, size)
	return &both{t: t, what: fmt.Sprintf("%d pages, cache %d", pages, size), d: d, p: p, x: at(t, p, 0, 0), m: map[string]string{}, last: map[string]string{}}
}

// noKey answers whether a text is no key.
func noKey(key []byte) bool { return len(key) == 0 || len(key) > 25 }

// done asks for an answer; ErrFull may be it, where fewer than 3 * height + 2 pages were free; ErrPower must be it, where the power went.
func (b *both) done(call string, e, want api.Errno, height, free int) {
	b.t.Helper()
	if e == api.ErrFull && want == api.OK && free < 3*height+2 {
		b.full++
		return
	}
	if !b.d.On() {
		want = api.ErrPower
	}
	if e != want {
		b.t.Fatalf("%s: %s answers error %d, not %d, at height %d with %d free pages", b.what, call, int(e), int(want), height, free)
	}
}

func (b *both) put(key, val []byte) api.Errno {
	b.t.Helper()
	want := api.OK
	if noKey(key) || len(val) > 24 {
		want = api.ErrArg
	}
	_, height := b.x.Root()
	free := b.p.Avail()
	e := b.x.Put(key, val)
	b.done(fmt.Sprintf("Put(%q, %q)", key, val), e, want, height, free)
	if e == api.OK {
		b.m[string(key)] = string(val)
	}
	return e
}

func (b *both) delete(key []byte) api.Errno {
	b.t.Helper()
	want := api.OK
	if _, is := b.m[string(key)]; noKey(key) {
		want = api.ErrArg
	} else if !is {
		want = api.ErrNone
	}
	_, height := b.x.Root()
	free := b.p.Avail()
	e := b.x.Delete(key)
	b.done(fmt.Sprintf("Delete(%q)", key), e, want, height, free)
	if e == api.OK {
		delete(b.m, string(key))
	}
	return e
}

func (b *both) get(key []byte) {
	b.t.Helper()
	val, is := b.m[string(key)]
	want := api.OK
	if noKey(key) {
		want = api.ErrArg
	} else if !is {
		want = api.ErrNone
	}
	got, e := b.x.Get(key)
	if e != want || string(got) != val || e != api.OK && got != nil {
		b.t.Fatalf("%s: Get(%q) answers %q, error %d, not %q, error %d", b.what, key, got, int(e), val, int(want))
	}
}

// getAll gets each key, and some that are not there.
func (b *both) getAll() {
	b.t.Helper()
	for key := range b.m {
		b.get([]byte(key))
		b.get([]byte(key + "\x00"))
		b.get([]byte(key[:len(key)-1]))
	}
}

// right asks that the tree is right, has the map's pairs, and that besides the head's pages, and those of others, just its nodes' are taken.
func (b *both) right(call string) *reading {
	b.t.Helper()
	root, height := b.x.Root()
	r := readTree(b.p, root, height)
	if r.wrong != "" {
		b.t.Fatalf("%s: behind %s: %s", b.what, call, r.wrong)
	}
	b.hasPairs(call, r)
	want := slices.Concat([]int{0, 1}, b.p.Maps(), r.pages, b.others)
	slices.Sort(want)
	if taken := b.p.Taken(); !slices.Equal(taken, want) {
		b.t.Fatalf("%s: behind %s: the pages %v are taken, not %v", b.what, call, taken, want)
	}
	return r
}

// hasPairs asks that a reading has just the map's pairs.
func (b *both) hasPairs(call string, r *reading) {
	b.t.Helper()
	if len(r.pairs) != len(b.m) {
		b.t.Fatalf("%s: behind %s: %d pairs, not %d", b.what, call, len(r.pairs), len(b.m))
	}
	for _, p := range r.pairs { // they rise, as the reading has asked: each is another one
		if val, is := b.m[string(p.Key)]; !is || val != string(p.Val) {
			b.t.Fatalf("%s: behind %s: %q has %q, not %q (%v)", b.what, call, p.Key, p.Val, val, is)
		}
	}
}

// told asks that Nodes and Pages tell what a reading by hand does.
func (b *both) told(call string) {
	b.t.Helper()
	r := b.right(call)
	i := 0
	for page, n := range b.x.Nodes() {
		if i >= len(r.pages) || page != r.pages[i] || !sameNode(n, r.nodes[i]) {
			b.t.Fatalf("%s: behind %s: Nodes tells %d and %v as its %d-th, of %v", b.what, call, page, n, i, r.pages)
		}
		i++
	}
	want := slices.Sorted(slices.Values(r.pages))
	pages, e := b.x.Pages()
	if i != len(r.pages) || e != api.OK || !slices.Equal(pages, want) {
		b.t.Fatalf("%s: behind %s: Nodes tells %d, Pages %v, error %d, not %v", b.what, call, i, pages, int(e), want)
	}
}

// as is all that a tree and its pager tell, and what all pages that are not free have.
func (b *both) as() string {
	b.t.Helper()
	root, height := b.x.Root()
	var l [][]byte
	for page := range b.p.Pages() {
		raw, _ := b.p.Raw(page)
		l = append(l, raw)
	}
	return fmt.Sprint(root, height, b.p.Taken(), b.p.Avail(), b.p.Maps(), b.p.Epoch(), l)
}

// commit commits the pager, with the root and the height as the user's bytes.
func (b *both) commit() api.Errno {
	b.t.Helper()
	root, height := b.x.Root()
	e := b.p.Commit([]byte{byte(root >> 8), byte(root), byte(height)})
	if e == api.OK {
		b.last = maps.Clone(b.m)
	}
	return e
}

// anew is the tree at the root that the last commit of a pager tells, with these pairs.
func (b *both) anew(p *pager.Pager, m map[string]string) *both {
	b.t.Helper()
	root, height := 0, 0
	if u := p.User(); len(u) == 3 {
		root, height = int(u[0])<<8+int(u[1]), int(u[2])
	}
	return &both{t: b.t, what: b.what, d: b.d, p: p, x: at(b.t, p, root, height), m: maps.Clone(m), last: m, full: b.full}
}

// undone is the tree behind an Abort, and At anew.
func (b *both) undone() *both {
	b.t.Helper()
	wantErr(b.t, b.what+": Abort", b.p.Abort(), api.OK)
	return b.anew(b.p, b.last)
}

// grown is a tree of so many keys of a sort, committed.
func grown(t *testing.T, pages, size int, s sort, count int) *both {
	t.Helper()
	b := empty(t, pages, size)
	for _, i := range s.order(count) {
		if b.put(s.key(i), s.val(i)) != api.OK {
			t.Fatal("there is no room")
		}
	}
	wantErr(t, "Commit", b.commit(), api.OK)
	return b
}

// sort is a sort of keys and values: the i-th, rising.
type sort struct {
	name     string
	key, val func(i int) []byte
	height   int // that 'many' of them come to at least, in whatever order
	many     int
}

// order is a drawn order of so many.
func (s sort) order(count int) []int {
	r := draws(uint32(len(s.name)) + 77)
	return r.order(count)
}

// two is a number in two bytes, the highest first.
func two(i int) []byte { return []byte{byte(i >> 8), byte(i)} }

// padded is a number in so many bytes, of which the first two tell it.
func padded(i, length int) []byte { return append(two(i), bytes.Repeat([]byte{'x'}, length-2)...) }

// mixedKey is a number in two bytes, and from 0 to 23 bytes more.
func mixedKey(i int) []byte { return padded(i, 2+i*7%24) }

func mixedVal(i int) []byte { return bytes.Repeat([]byte{byte(i)}, i*11%25) }

func noVal(int) []byte { return nil }

func longVal(i int) []byte { return bytes.Repeat([]byte{byte(i)}, 24) }

// sorts are short keys and the longest, short values and the longest, and mixed ones.
var sorts = []sort{
	{"short keys", two, two, 3, 1500},
	{"long keys", func(i int) []byte { return padded(i, 25) }, noVal, 4, 500},
	{"long keys and values", func(i int) []byte { return padded(i, 25) }, longVal, 4, 280},
	{"long values", two, longVal, 3, 600},
	{"mixed", mixedKey, mixedVal, 3, 400},
}
