package cursor_test

import (
	"bytes"
	"fmt"
	"iter"
	"math"
	"testing"

	"incipit/api"
	"incipit/cursor"
	"incipit/tree"
)

// P12.1, P12.2, P12.4, R5: of a tree that no call made nothing is told, Count is 0, and calls with an error answer ErrMade.
func TestTreesThatNoCallMade(t *testing.T) {
	_, p := formatted(t, 20, 2)
	refused, e := tree.At(p, 1, 1)
	wantErr(t, "At", e, api.ErrArg)
	unmade, e := tree.At(nil, 0, 0)
	wantErr(t, "At", e, api.ErrMade)
	var zero tree.Tree
	for what, x := range map[string]*tree.Tree{"nil": nil, "zero": {}, "new": new(tree.Tree), "a variable": &zero, "refused": refused, "without a pager": unmade} {
		for range 2 { // the calls have made nothing of it
			for _, key := range someBytes() {
				got, e := cursor.First(x, key)
				wantNoPair(t, what+": First", got, e, api.ErrMade)
				got, e = cursor.Last(x, key)
				wantNoPair(t, what+": Last", got, e, api.ErrMade)
				for call, all := range map[string]iter.Seq2[[]byte, []byte]{
					"All": cursor.All(x), "From": cursor.From(x, key), "Range": cursor.Range(x, nil, key), "Prefix": cursor.Prefix(x, key),
				} {
					wantPairs(t, what+": "+call, listed(all, -1), nil)
					wantPairs(t, what+": Gather of "+call, cursor.Gather(all, 5), nil)
				}
			}
			wantErr(t, what+": Check", cursor.Check(x), api.ErrMade)
			if n := cursor.Count(x); n != 0 {
				t.Errorf("%s: Count is %d", what, n)
			}
		}
	}
}

// roomy is a text with room behind it, in which something stands.
func roomy(b []byte) []byte {
	return append(append(make([]byte, 0, len(b)+40), b...), bytes.Repeat([]byte{0xee}, 40)...)[:len(b)]
}

// scribble writes over texts, and over what room they have behind them.
func scribble(texts ...[]byte) {
	for _, b := range texts {
		b = b[:cap(b)]
		for i := range b {
			b[i] ^= 0x5a
		}
	}
}

// scribblePairs writes over pairs, and over their list.
func scribblePairs(l []api.Pair) {
	for i, p := range l {
		scribble(p.Key, p.Val)
		l[i] = api.Pair{Key: []byte("scribble")}
	}
}

// R3: what is told is nobody's else: it is written over as it is told, up to the room behind it, and told again as it was; and the pages are as they were.
func TestWhatIsToldIsWrittenOver(t *testing.T) {
	t.Parallel()
	for _, size := range []int{2, 64} {
		for _, s := range sorts {
			b := grown(t, 400, size, s, 120)
			for i := range 30 {
				b.put(s.key(i), s.val(i+1)) // some pages are of this transaction
			}
			pairs := b.pairs()
			was := b.as()
			for range 2 {
				for what, teller := range b.tellers(pairs[11].Key, pairs[70].Key) {
					n := 0
					for key, val := range teller.all {
						if !samePairs([]api.Pair{{Key: key, Val: val}}, teller.want[n:n+1]) {
							t.Fatalf("%s: %s tells %q: %q as its %d-th, not %q", b.what, what, key, val, n, teller.want[n])
						}
						scribble(key, val)
						n++
					}
					b.told(what, teller.all, teller.want)
				}
				for _, p := range pairs {
					got, e := cursor.First(b.x, p.Key)
					wantPair(t, "First", got, e, []api.Pair{p})
					scribble(got.Key, got.Val)
					got, e = cursor.Last(b.x, append(bytes.Clone(p.Key), 0))
					wantPair(t, "Last", got, e, []api.Pair{p})
					scribble(got.Key, got.Val)
				}
				scribblePairs(cursor.Gather(cursor.All(b.x), 50))
				b.right("answers were changed")
			}
			if b.as() != was {
				t.Fatal("something was written")
			}
		}
	}
}

// R3: bytes that are handed in are not written to, nor what stands behind them.
func TestWhatIsHandedInStays(t *testing.T) {
	for _, b := range someTrees(t)[:14] {
		for _, key := range b.someAbout() {
			from, to := roomy(key), roomy(key)
			was := bytes.Clone(from[:cap(from)])
			listed(cursor.From(b.x, from), 3)
			listed(cursor.Range(b.x, nil, to), 3)
			listed(cursor.Range(b.x, from, to), 3)
			listed(cursor.Prefix(b.x, from), 3)
			cursor.First(b.x, from)
			cursor.Last(b.x, from)
			if !bytes.Equal(from[:cap(from)], was) || !bytes.Equal(to[:cap(to)], was) {
				t.Fatalf("%s: what was handed in was written to: %q", b.what, was)
			}
		}
	}
}

// R3: bytes that are handed in are not kept: their owner changes them behind the call, and amid the ranging.
func TestWhatIsHandedInIsNotKept(t *testing.T) {
	for _, s := range sorts {
		b := grown(t, 200, 4, s, 80)
		pairs := b.pairs()
		for i := 0; i < 80; i += 7 {
			from, to := pairs[i].Key, pairs[min(i+20, 79)].Key
			for what, x := range map[string]struct {
				tell func(a, b []byte) iter.Seq2[[]byte, []byte]
				want []api.Pair
			}{
				"From":   {func(a, _ []byte) iter.Seq2[[]byte, []byte] { return cursor.From(b.x, a) }, plainFrom(pairs, from)},
				"Range":  {func(a, to []byte) iter.Seq2[[]byte, []byte] { return cursor.Range(b.x, a, to) }, plainAhead(plainFrom(pairs, from), to)},
				"Prefix": {func(a, _ []byte) iter.Seq2[[]byte, []byte] { return cursor.Prefix(b.x, a) }, plainPrefix(pairs, from)},
			} {
				first, second := roomy(from), roomy(to)
				all := x.tell(first, second)
				scribble(first, second)
				b.told(what+", changed behind the call", all, x.want)
				first, second = roomy(from), roomy(to)
				all = x.tell(first, second)
				var l []api.Pair
				for key, val := range all {
					l = append(l, api.Pair{Key: key, Val: val})
					scribble(first, second)
				}
				wantPairs(t, what+", changed amid the ranging", l, x.want)
			}
		}
	}
}

// R3: lists that are handed to Merge are not written to, and not kept: their owner changes them, and their pairs, behind the call and amid the ranging.
func TestListsThatAreHandedIn(t *testing.T) {
	list := func(first int) []api.Pair {
		l := make([]api.Pair, 0, 40)
		for i := range 20 {
			l = append(l, api.Pair{Key: roomy(two(3*i + first)), Val: roomy(two(first))})
		}
		return append(l, api.Pair{Key: []byte("behind")})[:20]
	}
	want := plainMerge(list(0), list(1))
	a, b := list(0), list(1)
	all := cursor.Merge(a, b)
	wantPairs(t, "Merge", listed(all, -1), want)
	wantPairs(t, "the first list, and what stands behind it", a[:21], list(0)[:21])
	wantPairs(t, "the second list, and what stands behind it", b[:21], list(1)[:21])
	n := 0
	for key, val := range all {
		if !samePairs([]api.Pair{{Key: key, Val: val}}, want[n:n+1]) {
			t.Fatalf("Merge tells %q: %q, not %q", key, val, want[n])
		}
		scribble(key, val)
		if n < len(a) {
			scribblePairs(a[n : n+1])
			scribblePairs(b[n : n+1])
		}
		n++
	}
	if n != len(want) {
		t.Fatalf("Merge tells %d pairs, not %d", n, len(want))
	}
	wantPairs(t, "Merge, told again", listed(all, -1), want)
}

// R4: empty and nil are the same: bytes, and lists.
func TestEmptyAndNil(t *testing.T) {
	b := grown(t, 200, 4, sorts[4], 60)
	var told []string
	for _, none := range [][]byte{nil, {}, make([]byte, 0, 9)} {
		first, e := cursor.First(b.x, none)
		last, f := cursor.Last(b.x, none)
		told = append(told, fmt.Sprint(listed(cursor.From(b.x, none), -1), listed(cursor.Range(b.x, none, none), -1), listed(cursor.Range(b.x, none, two(9)), -1), listed(cursor.Prefix(b.x, none), -1), first, e, last, f))
	}
	for _, none := range [][]api.Pair{nil, {}, make([]api.Pair, 0, 9)} {
		told = append(told, fmt.Sprint(listed(cursor.Merge(none, b.pairs()), -1), listed(cursor.Merge(b.pairs(), none), -1), len(listed(cursor.Merge(none, none), -1))))
	}
	if told[0] != told[1] || told[0] != told[2] || told[3] != told[4] || told[3] != told[5] {
		t.Fatal("empty and nil differ")
	}
	for _, none := range [][]byte{nil, {}} {
		l := []api.Pair{{Key: none, Val: none}}
		wantPairs(t, "Merge", listed(cursor.Merge(l, []api.Pair{{Val: two(1)}}), -1), []api.Pair{{}})
		wantPairs(t, "Gather", cursor.Gather(cursor.Merge(l, nil), 4), []api.Pair{{}})
	}
}

// R6, R2: the same calls answer the same, and none of them changes anything: neither the tree, nor what is taken, nor a page.
func TestNothingIsChanged(t *testing.T) {
	for _, b := range someTrees(t) {
		was := b.as()
		all := func() string {
			told := fmt.Sprint(listed(cursor.All(b.x), -1), cursor.Count(b.x), cursor.Check(b.x))
			for _, key := range someBytes() {
				first, e := cursor.First(b.x, key)
				last, f := cursor.Last(b.x, key)
				told += fmt.Sprint(listed(cursor.From(b.x, key), 4), listed(cursor.Range(b.x, nil, key), 4), cursor.Gather(cursor.Prefix(b.x, key), 4), first, e, last, f)
			}
			return told
		}
		first := all()
		for range 2 {
			if all() != first {
				t.Fatalf("%s: the same calls answer something else", b.what)
			}
		}
		if b.as() != was {
			t.Fatalf("%s: something was changed", b.what)
		}
	}
}

// R1: a tree that is changed while one goes through it, which nobody is to do: nothing panics, and it ends.
func TestATreeThatIsChangedMeanwhile(t *testing.T) {
	for _, s := range sorts {
		for seed := range 6 {
			b := grown(t, 600, 4, s, 100)
			r := draws(seed)
			n := 0
			for range cursor.All(b.x) {
				for range 1 + seed {
					b.put(s.key(r.below(200)), s.val(r.below(200)))
					b.delete(s.key(r.below(200)))
				}
				if n++; n > 600*255 {
					t.Fatal("it does not end")
				}
			}
			for key := range cursor.From(b.x, two(3)) {
				b.delete(key)
			}
			b.right("all of it")
		}
	}
}

// THE BOUND: the greatest tree, and the greatest lists, in time.
func TestTheGreatestInTime(t *testing.T) {
	t.Parallel()
	s := sorts[2]
	b := empty(t, api.MaxPages, api.MaxCache)
	r := draws(2)
	for n, i := range r.order(3500) {
		b.put(s.key(i), s.val(i))
		if n%100 == 0 {
			wantErr(t, "Commit", b.p.Commit(nil), api.OK)
		}
	}
	if b.height() < 5 {
		t.Error("the height is", b.height())
	}
	b.right("all Puts")
	for i := 0; i < 3500; i += 5 {
		wantPairs(t, "From", cursor.Gather(cursor.From(b.x, s.key(i)), 1), []api.Pair{{Key: s.key(i), Val: s.val(i)}})
		got, e := cursor.Last(b.x, s.key(i+1))
		wantPair(t, "Last", got, e, []api.Pair{{Key: s.key(i), Val: s.val(i)}})
	}
	long := bytes.Repeat([]byte{255}, 1<<24)
	b.asked(long)
	b.asked(long[:1<<20])
	var odd, even []api.Pair
	for i := range 300000 {
		p := api.Pair{Key: []byte{byte(i >> 16), byte(i >> 8), byte(i)}}
		if i%2 == 0 {
			even = append(even, p)
		} else {
			odd = append(odd, p)
		}
	}
	if l := cursor.Gather(cursor.Merge(odd, even), math.MaxInt); len(l) != 300000 || !samePairs(l[:1], even[:1]) {
		t.Fatal("Merge tells", len(l))
	}
}
