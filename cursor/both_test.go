package cursor_test

import (
	"bytes"
	"fmt"
	"iter"
	"maps"
	"slices"
	"testing"

	"incipit/api"
	"incipit/cursor"
	"incipit/disk"
	"incipit/pager"
	"incipit/tree"
)

// both is a tree beside a plain map: what is put and deleted is so in both, and what is told of the tree is held against the map, sorted.
type both struct {
	t    *testing.T
	what string
	d    *disk.Disk
	p    *pager.Pager
	x    *tree.Tree
	m    map[string]string
}

// formatted is a pager of a new device.
func formatted(t *testing.T, pages, size int) (*disk.Disk, *pager.Pager) {
	t.Helper()
	d, e := disk.New(pages)
	wantErr(t, "disk.New", e, api.OK)
	p, e := pager.Format(d, size)
	wantErr(t, "pager.Format", e, api.OK)
	return d, p
}

// at is the tree at that root.
func at(t *testing.T, p *pager.Pager, root, height int) *tree.Tree {
	t.Helper()
	x, e := tree.At(p, root, height)
	wantErr(t, fmt.Sprintf("At(%d, %d)", root, height), e, api.OK)
	return x
}

// empty is the empty tree of a new device.
func empty(t *testing.T, pages, size int) *both {
	t.Helper()
	d, p := formatted(t, pages, size)
	return &both{t: t, what: fmt.Sprintf("%d pages, cache %d", pages, size), d: d, p: p, x: at(t, p, 0, 0), m: map[string]string{}}
}

func (b *both) put(key, val []byte) {
	b.t.Helper()
	wantErr(b.t, fmt.Sprintf("%s: Put(%q, %q)", b.what, key, val), b.x.Put(key, val), api.OK)
	b.m[string(key)] = string(val)
}

func (b *both) delete(key []byte) {
	b.t.Helper()
	want := api.ErrNone
	if _, is := b.m[string(key)]; is {
		want = api.OK
	}
	wantErr(b.t, fmt.Sprintf("%s: Delete(%q)", b.what, key), b.x.Delete(key), want)
	delete(b.m, string(key))
}

// pairs is the map's pairs, rising.
func (b *both) pairs() []api.Pair { return sorted(b.m) }

// sorted is a map's pairs, rising.
func sorted(m map[string]string) []api.Pair {
	var l []api.Pair
	for _, key := range slices.Sorted(maps.Keys(m)) {
		l = append(l, api.Pair{Key: []byte(key), Val: []byte(m[key])})
	}
	return l
}

// height is the tree's height.
func (b *both) height() int {
	_, height := b.x.Root()
	return height
}

// cut takes the device's power away, by a write of a page as it shows.
func (b *both) cut() {
	b.t.Helper()
	page := b.d.Pages() - 1
	as, e := b.d.Read(page)
	wantErr(b.t, "disk.Read", e, api.OK)
	wantErr(b.t, "Arm", b.d.Arm(0), api.OK)
	wantErr(b.t, "disk.Write", b.d.Write(page, as), api.ErrPower)
}

// told asks that an iterator tells just these pairs.
func (b *both) told(call string, all iter.Seq2[[]byte, []byte], want []api.Pair) {
	b.t.Helper()
	wantPairs(b.t, b.what+": "+call, listed(all, -1), want)
}

// asked asks all that tells of a tree's pairs about some bytes.
func (b *both) asked(key []byte) {
	b.t.Helper()
	pairs := b.pairs()
	from, ahead := plainFrom(pairs, key), plainAhead(pairs, key)
	b.told(fmt.Sprintf("From(%q)", key), cursor.From(b.x, key), from)
	b.told(fmt.Sprintf("Range(nil, %q)", key), cursor.Range(b.x, nil, key), ahead)
	b.told(fmt.Sprintf("Prefix(%q)", key), cursor.Prefix(b.x, key), plainPrefix(pairs, key))
	p, e := cursor.First(b.x, key)
	wantPair(b.t, fmt.Sprintf("%s: First(%q)", b.what, key), p, e, from)
	slices.Reverse(ahead)
	p, e = cursor.Last(b.x, key)
	wantPair(b.t, fmt.Sprintf("%s: Last(%q)", b.what, key), p, e, ahead)
}

// right asks that the tree is right, and has the map's pairs.
func (b *both) right(call string) {
	b.t.Helper()
	b.told("All behind "+call, cursor.All(b.x), b.pairs())
	if r := read(b.x); r.wrong != api.OK {
		b.t.Fatalf("%s: behind %s: %s, error %d", b.what, call, r.why, int(r.wrong))
	}
	wantErr(b.t, b.what+": Check behind "+call, cursor.Check(b.x), api.OK)
	if n := cursor.Count(b.x); n != len(b.m) {
		b.t.Fatalf("%s: behind %s Count is %d, not %d", b.what, call, n, len(b.m))
	}
}

// as is what the tree and its pager tell, and what all pages that are not free have.
func (b *both) as() string {
	b.t.Helper()
	root, height := b.x.Root()
	var l [][]byte
	for page := range b.p.Pages() {
		raw, _ := b.p.Raw(page)
		l = append(l, raw)
	}
	return fmt.Sprint(root, height, b.p.Taken(), b.p.Avail(), b.p.Maps(), b.p.Epoch(), l)
}

// sort is a sort of keys and values: the i-th, rising.
type sort struct {
	name     string
	key, val func(i int) []byte
}

// two is a number in two bytes, the highest first.
func two(i int) []byte { return []byte{byte(i >> 8), byte(i)} }

// padded is a number in so many bytes, of which the first two tell it.
func padded(i, length int) []byte { return append(two(i), bytes.Repeat([]byte{'x'}, length-2)...) }

func longKey(i int) []byte { return padded(i, 25) }

// mixedKey is a number in two bytes, and from 0 to 23 bytes more.
func mixedKey(i int) []byte { return padded(i, 2+i*7%24) }

// nestedKey is such that each seven keys begin with one another, and at the end with bytes of 255.
func nestedKey(i int) []byte {
	return append(bytes.Repeat([]byte{255}, i/7%12), append(two(i/7*7), make([]byte, i%7)...)...)
}

func mixedVal(i int) []byte { return bytes.Repeat([]byte{byte(i)}, i*11%25) }

func noVal(int) []byte { return nil }

func longVal(i int) []byte { return bytes.Repeat([]byte{byte(i)}, 24) }

// sorts are short keys and the longest, short values and the longest, mixed ones, and such as begin with one another.
var sorts = []sort{
	{"short keys", two, two},
	{"long keys", longKey, noVal},
	{"long keys and values", longKey, longVal},
	{"long values", two, longVal},
	{"mixed", mixedKey, mixedVal},
	{"nested", nestedKey, mixedVal},
}

// grown is a tree of so many keys of a sort, put in a drawn order, committed.
func grown(t *testing.T, pages, size int, s sort, count int) *both {
	t.Helper()
	b := empty(t, pages, size)
	b.what = fmt.Sprintf("%d %s, cache %d", count, s.name, size)
	r := draws(count)
	for _, i := range r.order(count) {
		b.put(s.key(i), s.val(i))
	}
	wantErr(t, "Commit", b.p.Commit(nil), api.OK)
	return b
}

// someTrees are the empty tree, and trees of the heights 1 to 4 and more, committed and with changes since.
func someTrees(t *testing.T) []*both {
	t.Helper()
	var l []*both
	heights := map[int]bool{}
	for _, s := range sorts {
		for n, count := range []int{0, 1, 2, 4, 30, 150, 400} {
			b := grown(t, 600, []int{2, 5, 64}[n%3], s, count)
			if n%2 == 1 {
				for i := range count / 3 {
					b.put(s.key(i*2), []byte("changed"))
					b.put(append([]byte{byte(7 * i)}, "more"...), nil)
					b.delete(s.key(i * 5 % (count + 3)))
				}
			}
			heights[b.height()] = true
			l = append(l, b)
		}
	}
	for height := range 5 {
		if !heights[height] {
			t.Fatal("there is no tree of height", height, heights)
		}
	}
	return l
}

// someBytes are none and nil, single bytes, bytes that are all 255, short and long ones, also too long for a key.
func someBytes() [][]byte {
	l := [][]byte{nil, {}, {0}, {1}, {127}, {128}, {254}, {255}, []byte("a"), []byte("ab"), {0, 3}, {0, 255}, {1, 255}, {255, 254}, {254, 255, 255}}
	for _, n := range []int{2, 3, 11, 24, 25, 26, 27, 255, 256, 257, 4096} {
		l = append(l, make([]byte, n), bytes.Repeat([]byte{'m'}, n), bytes.Repeat([]byte{255}, n))
	}
	return l
}

// about is bytes about a key: it, some of its beginnings, what stands right behind it, and right ahead of it.
func about(key []byte) [][]byte {
	l := [][]byte{key, append(bytes.Clone(key), 0), append(bytes.Clone(key), 255), append(bytes.Clone(key), make([]byte, 25)...)}
	for _, n := range []int{1, 2, len(key) / 2, len(key) - 1} {
		l = append(l, bytes.Clone(key[:min(n, len(key))]))
	}
	less, more := bytes.Clone(key), bytes.Clone(key)
	less[len(key)-1]--
	more[len(key)-1]++
	return append(l, less, more, append(bytes.Clone(less), 255))
}

// someAbout is someBytes, and what is about some of the tree's keys: the first and the last ones, and those where leaves begin and end.
func (b *both) someAbout() [][]byte {
	l := someBytes()
	r := read(b.x)
	for n, s := range r.spots {
		if keys := keysOf(s.node); n < 4 || n > len(r.spots)-4 || n%9 == 0 {
			l = append(l, about(keys[0])...)
			l = append(l, about(keys[len(keys)-1])...)
		}
	}
	return l
}
