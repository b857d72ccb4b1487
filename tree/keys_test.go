package tree_test

import (
	"bytes"
	"fmt"
	"testing"

	"incipit/api"
)

// someKeys are keys of 0, 1, 25 and 26 bytes, and others; nil among them.
func someKeys() [][]byte {
	l := [][]byte{nil, {}, {0}, {1}, {127}, {128}, {255}, []byte("a"), []byte("ab"), []byte("b"), two(3), two(77)}
	for _, n := range []int{24, 25, 26, 27, 255, 256, 256 + 1, 256 + 25, 4096} {
		l = append(l, make([]byte, n), bytes.Repeat([]byte{'m'}, n), bytes.Repeat([]byte{255}, n))
	}
	return l
}

// someVals are values of 0, 24 and 25 bytes, and others; nil among them.
func someVals() [][]byte {
	l := [][]byte{nil, {}, {0}, {255}, []byte("val")}
	for _, n := range []int{23, 24, 25, 26, 255, 256, 256 + 24, 4096} {
		l = append(l, make([]byte, n), bytes.Repeat([]byte{'v'}, n))
	}
	return l
}

// someTrees are the empty tree, a leaf, and higher ones, committed, and with changes since.
func someTrees(t *testing.T) []*both {
	t.Helper()
	var l []*both
	for _, count := range []int{0, 1, 3, 20, 60, 300} {
		l = append(l, grown(t, 600, 4, sorts[2], count), grown(t, 600, 64, sorts[4], count))
		changed := grown(t, 600, 4, sorts[4], count)
		for i := range count / 2 {
			changed.put(sorts[4].key(i*3), []byte("changed"))
			changed.put(append([]byte("more"), two(i)...), nil)
		}
		l = append(l, changed)
	}
	for i, b := range l {
		b.what = fmt.Sprintf("tree %d, %s", i, b.what)
	}
	return l
}

// P11.2: keys and values of all lengths, there and not there, in trees of many heights.
func TestKeysAndValues(t *testing.T) {
	t.Parallel()
	for _, b := range someTrees(t) {
		for _, key := range someKeys() {
			b.get(key)
			b.delete(key)
			for _, val := range someVals() {
				b.put(key, val)
				b.get(key)
			}
			b.right("Put")
			b.get(key)
			b.delete(key)
			b.get(key)
			b.delete(key)
			b.right("Delete")
		}
		b.getAll()
		b.told("all of it")
	}
}

// P11.2: a value that is put again counts from then on, longer or shorter: leaves that get too small by it, or do not fit any more, too.
func TestValuesThatArePutAgain(t *testing.T) {
	t.Parallel()
	for _, s := range sorts {
		b := grown(t, 800, 5, s, 300)
		r := draws(9)
		for n := range 1200 {
			i := r.below(300)
			val := bytes.Repeat([]byte{byte(n)}, []int{0, 24, r.below(25), 24 * (n / 300 % 2)}[n%4])
			b.put(s.key(i), val)
			b.get(s.key(i))
			b.right("Put")
			if n%200 == 0 {
				wantErr(t, "Commit", b.commit(), api.OK)
			}
		}
		b.getAll()
	}
}

// P11.5: values that get short make all leaves small, key by key, and joined.
func TestValuesThatShrink(t *testing.T) {
	b := grown(t, 800, 5, sorts[3], 400)
	_, height := b.x.Root()
	before := len(b.p.Taken())
	for i := range 400 {
		b.put(two(i), nil)
		b.right("Put")
	}
	wantErr(t, "Commit", b.commit(), api.OK)
	if _, low := b.x.Root(); low >= height || len(b.p.Taken()) > before/3 {
		t.Fatalf("the height was %d and is %d; %d pages were taken, and %d are", height, low, before, len(b.p.Taken()))
	}
}

// P11.2, R2: ErrArg and ErrNone change nothing: the root, the pages that are taken, what all of them have.
func TestErrorsThatChangeNothing(t *testing.T) {
	for _, b := range someTrees(t) {
		was := b.as()
		for _, key := range someKeys() {
			if _, is := b.m[string(key)]; !is {
				b.delete(key)
			}
			b.get(key)
			for _, val := range someVals() {
				if noKey(key) || len(val) > 24 {
					b.put(key, val)
				}
			}
		}
		if b.as() != was {
			t.Fatalf("%s: an error has changed something", b.what)
		}
		b.told("errors")
	}
}

// P11.2, R2: ErrArg stands ahead of what a page that can't be read answers, and of ErrNone.
func TestWhichErrorStandsFirst(t *testing.T) {
	b := grown(t, 100, 2, sorts[2], 40)
	root, height := b.x.Root()
	wantErr(t, "PutRaw", b.p.PutRaw(root, []byte("spoilt")), api.OK)
	none := at(t, b.p, 0, 0)
	for _, off := range []bool{false, true} {
		want := api.ErrSum
		if off {
			want = api.ErrPower
			cut(t, b.d)
		}
		for _, key := range someKeys() {
			of := map[bool]api.Errno{true: api.ErrArg, false: want}[noKey(key)]
			wantGetErr(t, b.x.Get, key, of)
			wantErr(t, "Delete", b.x.Delete(key), of)
			for _, val := range someVals() {
				of := map[bool]api.Errno{true: api.ErrArg, false: want}[noKey(key) || len(val) > 24]
				wantErr(t, "Put", b.x.Put(key, val), of)
			}
			// Of the empty tree no page is read.
			of = map[bool]api.Errno{true: api.ErrArg, false: api.ErrNone}[noKey(key)]
			wantGetErr(t, none.Get, key, of)
			wantErr(t, "Delete", none.Delete(key), of)
		}
	}
	if r, h := b.x.Root(); r != root || h != height {
		t.Fatal("Root", r, h)
	}
	wantErr(t, "Put into the empty tree", none.Put([]byte("a"), nil), api.ErrPower)
	if r, h := none.Root(); r != 0 || h != 0 {
		t.Fatal("Root", r, h)
	}
}

// wantGetErr asks for an error of Get, and no value beside it.
func wantGetErr(t *testing.T, get func([]byte) ([]byte, api.Errno), key []byte, want api.Errno) {
	t.Helper()
	if val, e := get(key); e != want || val != nil {
		t.Fatalf("Get(%q) answers %v, error %d, not %d", key, val, int(e), int(want))
	}
}

// The chapter's example.
func TestTheExample(t *testing.T) {
	b := empty(t, 20, 2)
	b.put([]byte("a"), []byte("1"))
	b.put([]byte("b"), []byte("2"))
	r := b.right("Put")
	if root, height := b.x.Root(); height != 1 || len(r.nodes) != 1 || root != r.pages[0] || !r.nodes[0].Leaf {
		t.Fatal("Put of a, b:", root, height, r.nodes)
	}
	size := 1 + 4 + 4
	for i := 0; size <= 240; i++ { // a leaf holds 240 bytes
		if _, height := b.x.Root(); height != 1 {
			t.Fatalf("%d bytes come to the height %d", size, height)
		}
		b.put([]byte{'c', byte(i)}, []byte("val"))
		size += 1 + 2 + 1 + 3
	}
	if _, height := b.x.Root(); height != 2 {
		t.Fatalf("%d bytes come to the height %d", size, height)
	}
	b.told("so many keys")
}
