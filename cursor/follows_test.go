package cursor_test

import (
	"bytes"
	"fmt"
	"math"
	"slices"
	"testing"

	"incipit/api"
	"incipit/cursor"
)

// step does one act that is drawn: Put, Delete, or Commit; where there is no room any more it begins anew.
func (b *both) step(r *draws) *both {
	b.t.Helper()
	key, val := r.text(1, 25), r.text(0, 24)
	if r.below(3) > 0 {
		key = r.text(1, 2) // which is often there
	}
	if pairs := b.pairs(); r.below(2) == 0 && len(pairs) > 0 {
		key = pairs[r.below(len(pairs))].Key
	}
	switch k := r.below(16); {
	case b.p.Avail() < 3*b.height()+4:
		return empty(b.t, b.p.Pages(), 4)
	case k < 9:
		b.put(key, val)
	case k < 15:
		b.delete(key)
	default:
		wantErr(b.t, b.what+": Commit", b.p.Commit(nil), api.OK)
	}
	return b
}

// gathered is all that a call tells, by Gather.
func gathered(b *both, from, to []byte) []api.Pair {
	return cursor.Gather(cursor.Range(b.x, from, to), math.MaxInt)
}

// followed asks of some bytes what P12.5 and P12.7 say, by the package's own calls alone.
func (b *both) followed(key []byte) {
	b.t.Helper()
	what := fmt.Sprintf("%s: of %q", b.what, key)
	all := cursor.Gather(cursor.All(b.x), math.MaxInt)
	from := cursor.Gather(cursor.From(b.x, key), math.MaxInt)
	ahead := gathered(b, nil, key)
	wantPairs(b.t, what+", Range and From", slices.Concat(ahead, from), all)
	wantPairs(b.t, what+", Merge of From and Range", listed(cursor.Merge(from, ahead), -1), all)
	wantPairs(b.t, what+", Merge of Range and From", listed(cursor.Merge(ahead, from), -1), all)
	prefix := cursor.Gather(cursor.Prefix(b.x, key), math.MaxInt)
	begin := key
	for len(begin) > 0 && begin[len(begin)-1] == 255 {
		begin = begin[:len(begin)-1]
	}
	if len(begin) == 0 { // no text stands behind all that begin so
		wantPairs(b.t, what+", Prefix", prefix, from)
		return
	}
	wantPairs(b.t, what+", Prefix", prefix, gathered(b, key, lastOne(string(begin), 1)))
}

// P12.5, P12.6, P12.7: drawn lives: whatever was put and deleted, Check is OK and Count is how many keys there are, behind each step.
func TestLives(t *testing.T) {
	t.Parallel()
	for seed := range 30 {
		r := draws(seed * 11)
		b := empty(t, []int{12, 20, 40, 100, 300}[seed%5], 2+r.below(10))
		b.what = fmt.Sprint("seed ", seed)
		for n := range 400 {
			b = b.step(&r)
			wantErr(t, b.what+": Check", cursor.Check(b.x), api.OK)
			if count := cursor.Count(b.x); count != len(b.m) {
				t.Fatalf("%s: Count is %d, not %d", b.what, count, len(b.m))
			}
			b.followed(r.text(0, 3))
			b.asked(r.text(0, 3))
			if n%40 == 0 {
				b.right("a step")
				for _, p := range b.pairs() {
					b.followed(p.Key)
					b.asked(p.Key)
				}
			}
		}
	}
}

// P12.5, P12.7: of trees of many heights, and of bytes of all sorts.
func TestFollowsOfTrees(t *testing.T) {
	t.Parallel()
	for n, b := range someTrees(t) {
		for i, key := range b.someAbout() {
			if (i+n)%4 == 0 {
				b.followed(key)
			}
		}
	}
}

// P12.6: trees that grow from nothing, and shrink to nothing again, in the keys' order and against it.
func TestGrowAndShrink(t *testing.T) {
	t.Parallel()
	for _, s := range sorts {
		for _, step := range []int{1, 249, 77} {
			b := empty(t, 600, 6)
			b.what = s.name
			for n := range 250 {
				b.put(s.key(n*step%250), s.val(n))
				wantErr(t, "Check behind Put", cursor.Check(b.x), api.OK)
				if n%25 == 0 {
					b.right("Put")
				}
			}
			for n := range 250 {
				b.delete(s.key(n * step % 250))
				wantErr(t, "Check behind Delete", cursor.Check(b.x), api.OK)
				if n%25 == 0 {
					b.right("Delete")
				}
			}
			if b.height() != 0 {
				t.Fatal("the height is", b.height())
			}
		}
	}
}

// Each byte is an act, or what one needs; and what is asked for.
func FuzzLife(f *testing.F) {
	f.Add(uint8(30), []byte{0, 3, 1, 9, 200, 7, 255, 31, 4}, []byte("a"))
	f.Add(uint8(90), []byte("put, delete, commit and all of it again"), []byte{255, 255})
	f.Fuzz(func(t *testing.T, pages uint8, acts, key []byte) {
		b := empty(t, 20+int(pages), 2+int(pages)%7)
		for i, a := range acts[:min(len(acts), 300)] {
			r := draws(uint32(a)*7919 + uint32(i)*31)
			b = b.step(&r)
		}
		b.right("all steps")
		b.followed(key)
		b.asked(key)
	})
}

// Whatever stands on pages that are framed as nodes: Check tells what a reading by hand does, no call panics, and each ends.
func FuzzPages(f *testing.F) {
	f.Add([]byte{1, 0, 3, 1, 98, 0, 4}, []byte{1, 0, 5, 1, 98, 0, 5}, []byte{1, 1, 97, 1, 7}, []byte("b"))
	f.Add([]byte{1, 0, 3, 1, 98, 0, 3}, []byte{1, 0, 4, 1, 98, 0, 4}, []byte{0}, []byte("a"))
	f.Fuzz(func(t *testing.T, first, second, third, key []byte) {
		_, p := formatted(t, 20, 2)
		for _, bears := range [][]byte{first, second, third} {
			for _, kind := range []int{api.KindInner, api.KindLeaf} {
				p.New(kind, bears)
			}
		}
		for root := 2; root < 10; root++ {
			for height := 1; height <= 8; height++ {
				x := at(t, p, root, height)
				wantErr(t, "Check", cursor.Check(x), read(x).wrong)
				for _, p := range cursor.Gather(cursor.Prefix(x, key), 9) {
					if !bytes.HasPrefix(p.Key, key) && read(x).wrong == api.OK {
						t.Fatalf("Prefix(%q) tells %q", key, p.Key)
					}
				}
				cursor.Gather(cursor.Range(x, key, key), 9)
				cursor.Count(x)
				cursor.First(x, key)
				cursor.Last(x, key)
			}
		}
	})
}
