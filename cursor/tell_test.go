package cursor_test

import (
	"bytes"
	"fmt"
	"iter"
	"testing"

	"incipit/api"
	"incipit/cursor"
)

// The chapter's example.
func TestTheExample(t *testing.T) {
	b := empty(t, 20, 2)
	b.put([]byte("a"), []byte("1"))
	b.put([]byte("ab"), []byte("2"))
	b.put([]byte("b"), []byte("3"))
	as := func(all iter.Seq2[[]byte, []byte]) string {
		told := ""
		for key, val := range all {
			told += fmt.Sprintf("%s: %s, ", key, val)
		}
		return told
	}
	if told := as(cursor.Prefix(b.x, []byte("a"))); told != "a: 1, ab: 2, " {
		t.Error("Prefix(a) tells", told)
	}
	if told := as(cursor.Range(b.x, []byte("ab"), []byte("b"))); told != "ab: 2, " {
		t.Error("Range(ab, b) tells", told)
	}
	if p, e := cursor.First(b.x, []byte("aa")); e != api.OK || string(p.Key) != "ab" || string(p.Val) != "2" {
		t.Error("First(aa) is", p, e)
	}
	if p, e := cursor.Last(b.x, []byte("b")); e != api.OK || string(p.Key) != "ab" || string(p.Val) != "2" {
		t.Error("Last(b) is", p, e)
	}
	if told := as(cursor.All(b.x)); told != "a: 1, ab: 2, b: 3, " || cursor.Count(b.x) != 3 || cursor.Check(b.x) != api.OK {
		t.Error("All tells", told)
	}
}

// P12.1, P12.2: the empty tree has no pair, whatever is asked for.
func TestTheEmptyTree(t *testing.T) {
	b := empty(t, 20, 2)
	b.right("nothing")
	for _, key := range someBytes() {
		b.asked(key)
	}
	b.put([]byte("a"), nil)
	b.right("Put")
	b.delete([]byte("a"))
	b.right("Delete")
	for _, key := range someBytes() {
		b.asked(key)
	}
}

// P12.1, P12.2: trees of many heights, asked about keys that are there, that are not, ahead of all, behind all, none, too long, and all 255.
func TestTreesAndBytes(t *testing.T) {
	t.Parallel()
	for n, b := range someTrees(t) {
		b.right("all Puts")
		for i, key := range b.someAbout() {
			if i < 60 || (i+n)%2 == 0 {
				b.asked(key)
			}
		}
	}
}

// P12.1: ranges from and to all of these, each beside each: from behind to, from to itself, and from nothing to nothing among them.
func TestRanges(t *testing.T) {
	t.Parallel()
	for _, s := range sorts {
		for _, count := range []int{0, 1, 9, 40} {
			b := grown(t, 200, 4, s, count)
			pairs := b.pairs()
			ends := someBytes()
			for _, i := range []int{0, count / 2, count - 1} {
				if i >= 0 && i < count {
					ends = append(ends, about(pairs[i].Key)...)
				}
			}
			for _, from := range ends {
				for _, to := range ends {
					b.told(fmt.Sprintf("Range(%q, %q)", from, to), cursor.Range(b.x, from, to), plainAhead(plainFrom(pairs, from), to))
				}
			}
		}
	}
}

// P12.1: Prefix of bytes that are all 255, behind which there is no text, of such as end so, of none, and of more than a key has.
func TestPrefixes(t *testing.T) {
	b := empty(t, 200, 4)
	for n := range 25 {
		most := bytes.Repeat([]byte{255}, n)
		b.put(append(bytes.Clone(most), 7), []byte{byte(n)})
		b.put(append(bytes.Clone(most), 255), []byte{byte(n)})
		b.put(append([]byte{1}, most[:min(n, 24)]...), nil)
		b.put(append([]byte{2}, make([]byte, n)...)[:min(n+1, 25)], nil)
	}
	b.right("all Puts")
	for n := range 30 {
		most := bytes.Repeat([]byte{255}, n)
		for _, key := range [][]byte{most, append([]byte{1}, most...), append([]byte{0}, most...), append([]byte{2}, most...), append(bytes.Clone(most), 7), append([]byte{2}, make([]byte, n)...), append(bytes.Clone(most), 254)} {
			b.asked(key)
		}
	}
	if l := listed(cursor.Prefix(b.x, bytes.Repeat([]byte{255}, 25)), -1); len(l) != 1 || len(l[0].Key) != 25 {
		t.Error("Prefix of 25 bytes of 255 tells", l)
	}
	if l := listed(cursor.Prefix(b.x, bytes.Repeat([]byte{255}, 26)), -1); len(l) != 0 {
		t.Error("Prefix of 26 bytes of 255 tells", l)
	}
}

// tellers are iterators over a tree's pairs, and what they are to tell.
func (b *both) tellers(from, to []byte) map[string]struct {
	all  iter.Seq2[[]byte, []byte]
	want []api.Pair
} {
	type teller = struct {
		all  iter.Seq2[[]byte, []byte]
		want []api.Pair
	}
	pairs := b.pairs()
	return map[string]teller{
		"All":    {cursor.All(b.x), pairs},
		"From":   {cursor.From(b.x, from), plainFrom(pairs, from)},
		"Range":  {cursor.Range(b.x, from, to), plainAhead(plainFrom(pairs, from), to)},
		"Prefix": {cursor.Prefix(b.x, from[:1]), plainPrefix(pairs, from[:1])},
		"Merge":  {cursor.Merge(plainFrom(pairs, from), pairs), pairs},
	}
}

// P12.1, P12.3, R3: each gone through to its end, and left behind each pair, and again, and within itself.
func TestLeftBehindEachPair(t *testing.T) {
	t.Parallel()
	for _, s := range sorts {
		b := grown(t, 200, 3, s, 80)
		pairs := b.pairs()
		for what, teller := range b.tellers(pairs[11].Key, pairs[70].Key) {
			for most := 1; most <= len(teller.want); most++ {
				wantPairs(t, what, listed(teller.all, most), teller.want[:most])
			}
			for range 2 {
				b.told(what, teller.all, teller.want)
			}
			count := 0
			for key := range teller.all {
				if most := count % 5; most > 0 {
					wantPairs(t, what+" within itself", listed(teller.all, most), teller.want[:min(most, len(teller.want))])
				}
				if !bytes.Equal(key, teller.want[count].Key) {
					t.Fatalf("%s: %q is the %d-th, not %q", what, key, count, teller.want[count].Key)
				}
				count++
			}
			if count != len(teller.want) {
				t.Fatalf("%s tells %d pairs, not %d", what, count, len(teller.want))
			}
		}
	}
}

// P12.1: each tells the tree as it is when one begins to go through it, not as it was when the call was made.
func TestTheTreeAsItIsThen(t *testing.T) {
	for _, s := range sorts {
		b := empty(t, 400, 4)
		from, to, begin := s.key(20), s.key(90), s.key(20)[:1]
		all, onward, between, prefix := cursor.All(b.x), cursor.From(b.x, from), cursor.Range(b.x, from, to), cursor.Prefix(b.x, begin)
		r := draws(3)
		for n, i := range r.order(150) {
			b.put(s.key(i), s.val(i))
			if n%3 == 2 {
				b.delete(s.key(n))
			}
			if n%50 == 0 {
				wantErr(t, "Commit", b.p.Commit(nil), api.OK)
			}
			if n%10 == 9 {
				pairs := b.pairs()
				b.told("All", all, pairs)
				b.told("From", onward, plainFrom(pairs, from))
				b.told("Range", between, plainAhead(plainFrom(pairs, from), to))
				b.told("Prefix", prefix, plainPrefix(pairs, begin))
			}
		}
	}
}

// P12.1, P11.6: a tree at the root of the last commit is told as it was, while another one goes on from there, amid the going through, too.
func TestAnOldRoot(t *testing.T) {
	for _, s := range sorts {
		b := grown(t, 600, 4, s, 80)
		root, height := b.x.Root()
		old, pairs := at(t, b.p, root, height), b.pairs()
		n := 0
		for key, val := range cursor.All(old) {
			if !samePairs([]api.Pair{{Key: key, Val: val}}, pairs[n:n+1]) {
				t.Fatalf("%s: %q: %q, not %q", s.name, key, val, pairs[n])
			}
			b.put(s.key(n), []byte("another"))
			b.delete(s.key((n + 40) % 80))
			b.put(s.key(n+200), nil)
			n++
		}
		if n != len(pairs) || cursor.Count(old) != n || cursor.Check(old) != api.OK {
			t.Fatalf("%s: All tells %d, Count %d, Check %d", s.name, n, cursor.Count(old), int(cursor.Check(old)))
		}
		b.right("all of it")
	}
}
