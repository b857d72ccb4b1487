package cursor_test

import (
	"fmt"
	"iter"
	"slices"
	"testing"

	"incipit/api"
	"incipit/cursor"
	"incipit/pager"
)

// P12.1, P12.2, P12.4: a device whose power is gone: nothing is told, what must read a page answers ErrPower; of the empty tree none need be read.
func TestWithoutPower(t *testing.T) {
	for _, b := range someTrees(t) {
		b.cut()
		first, last, check := api.ErrPower, api.ErrPower, api.ErrPower
		if b.height() == 0 {
			first, last, check = api.ErrNone, api.ErrNone, api.OK
		}
		wantErr(t, b.what+": Check", cursor.Check(b.x), check)
		if n := cursor.Count(b.x); n != 0 {
			t.Fatalf("%s: Count is %d without power", b.what, n)
		}
		for _, key := range someBytes() {
			for what, all := range map[string]iter.Seq2[[]byte, []byte]{
				"All": cursor.All(b.x), "From": cursor.From(b.x, key), "Range": cursor.Range(b.x, nil, key), "Prefix": cursor.Prefix(b.x, key),
			} {
				b.told(what+" without power", all, nil)
			}
			got, e := cursor.First(b.x, key)
			wantNoPair(t, b.what+": First", got, e, first)
			got, e = cursor.Last(b.x, key)
			wantNoPair(t, b.what+": Last", got, e, last)
		}
	}
}

// P12.1: the power goes in the midst of going through: what was read is told to the leaf's end, and no more; each pair is as it was.
func TestThePowerGoesInTheMidst(t *testing.T) {
	t.Parallel()
	for _, s := range sorts {
		base := grown(t, 200, 4, s, 60)
		pairs := base.pairs()
		var ends []int // how many pairs stand up to the end of each leaf
		for _, n := range read(base.x).spots {
			if n.node.Leaf {
				ends = append(ends, n.pairs+len(n.node.Pairs))
			}
		}
		for after := range pairs {
			d := base.d.Clone()
			p, e := pager.Open(d, 3)
			wantErr(t, "Open", e, api.OK)
			root, height := base.x.Root()
			b := &both{t: t, what: base.what, d: d, p: p, x: at(t, p, root, height), m: base.m}
			end := ends[slices.IndexFunc(ends, func(n int) bool { return n > after })]
			var told []api.Pair
			for key, val := range cursor.All(b.x) {
				told = append(told, api.Pair{Key: key, Val: val})
				if len(told) == after+1 {
					b.cut()
				}
			}
			wantPairs(t, fmt.Sprintf("%s: the power goes behind %d pairs", b.what, after+1), told, pairs[:end])
			b.told("without power", cursor.All(b.x), nil)
		}
	}
}

// passed answers whether what stands at a spot is ahead of all that key leads to.
func (s spot) passed(key []byte) bool { return s.high != "" && s.high <= string(key) }

// later answers whether what stands at a spot is behind all that key leads to.
func (s spot) later(key []byte) bool { return s.low > string(key) }

// P12.1, P12.2, P12.4: a page that was spoilt, each in turn: all end there, and tell what stands ahead of it; those whose way does not lead over it tell all. First and Last answer its error, where nothing was found ahead of it; Check always does.
func TestSpoiltPages(t *testing.T) {
	t.Parallel()
	for _, s := range []sort{sorts[2], sorts[5]} {
		b := grown(t, 200, 4, s, 70)
		pairs := b.pairs()
		for _, at := range read(b.x).spots {
			was, e := b.p.Raw(at.page)
			wantErr(t, "Raw", e, api.OK)
			for want, bad := range map[api.Errno][]byte{
				api.ErrSum:  []byte("spoilt"),
				api.ErrKind: plainFrame(7-kindOf(at.node), at.page, plainBytes(at.node)),
				api.ErrPage: plainFrame(kindOf(at.node), at.page^1, plainBytes(at.node)),
				api.ErrNode: plainFrame(kindOf(at.node), at.page, []byte{1}),
			} {
				wantErr(t, "PutRaw", b.p.PutRaw(at.page, bad), api.OK)
				b.told("All", cursor.All(b.x), pairs[:at.pairs])
				wantErr(t, b.what+": Check", cursor.Check(b.x), want)
				if n := cursor.Count(b.x); n != at.pairs {
					t.Fatalf("%s: Count is %d, not %d", b.what, n, at.pairs)
				}
				for i := 0; i < len(pairs); i += 3 {
					b.askedUpTo(at, pairs[i].Key, pairs[(i+9)%len(pairs)].Key, want)
				}
			}
			wantErr(t, "PutRaw", b.p.PutRaw(at.page, was), api.OK)
		}
		b.right("all of it")
	}
}

// askedUpTo asks about a key while the page at a spot can't be read.
func (b *both) askedUpTo(at spot, key, to []byte, want api.Errno) {
	b.t.Helper()
	pairs := b.pairs()
	ahead, behind := pairs[:at.pairs], plainSome(pairs, func(key string) bool { return at.high != "" && key >= at.high })
	from := plainFrom(ahead, key)
	if at.passed(key) {
		from = plainFrom(pairs, key)
	}
	what := fmt.Sprintf("with page %d spoilt", at.page)
	b.told("From "+what, cursor.From(b.x, key), from)
	b.told("Range "+what, cursor.Range(b.x, key, to), plainAhead(from, to))
	b.told("Prefix "+what, cursor.Prefix(b.x, key[:1]), plainPrefix(plainFromOver(pairs, at, key[:1]), key[:1]))
	p, e := cursor.First(b.x, key)
	if len(from) == 0 && !at.passed(key) {
		wantNoPair(b.t, b.what+": First "+what, p, e, want)
	} else {
		wantPair(b.t, b.what+": First "+what, p, e, from)
	}
	last := plainAhead(behind, key)
	if at.later(key) {
		last = plainAhead(pairs, key)
	}
	slices.Reverse(last)
	p, e = cursor.Last(b.x, key)
	if len(last) == 0 && !at.later(key) {
		wantNoPair(b.t, b.what+": Last "+what, p, e, want)
	} else {
		wantPair(b.t, b.what+": Last "+what, p, e, last)
	}
}

// plainFromOver is what From tells while the page at a spot can't be read.
func plainFromOver(pairs []api.Pair, at spot, key []byte) []api.Pair {
	if at.passed(key) {
		return plainFrom(pairs, key)
	}
	return plainFrom(pairs[:at.pairs], key)
}
