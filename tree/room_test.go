package tree_test

import (
	"fmt"
	"maps"
	"slices"
	"testing"

	"incipit/api"
)

// P11.7: small devices, filled until ErrFull, in one transaction and in many: it comes only where fewer than 3 * height + 2 pages are free (both.done asks).
func TestFilledDevices(t *testing.T) {
	t.Parallel()
	full := map[int]int{}
	for _, pages := range []int{8, 9, 10, 11, 12, 13, 14, 16, 19, 24, 40} {
		for n, s := range sorts {
			for _, every := range []int{1, 7, 1 << 30} {
				r := draws(pages*10 + n)
				b := empty(t, pages, 2+r.below(5))
				b.what = fmt.Sprintf("%d pages, %s, commit every %d", pages, s.name, every)
				full[every] += b.fill(s, r.order(pages*60), every)
			}
		}
	}
	for every, count := range full {
		if count < 10 {
			t.Errorf("commit every %d: ErrFull of a Put, or a Delete, came %d times alone", every, count)
		}
	}
}

// fill puts keys till there is no room, deletes some, and goes on, a few times: how often Put or Delete answered ErrFull (a Commit may, too).
func (b *both) fill(s sort, order []int, every int) int {
	b.t.Helper()
	rounds := 0
	for step, i := range order {
		e := b.put(s.key(i), s.val(i))
		if e == api.OK && step%every == every-1 {
			e = b.commit()
		}
		if e == api.OK {
			continue
		}
		wantErr(b.t, b.what, e, api.ErrFull)
		b = b.undone()
		b.told("ErrFull, Abort and At")
		if rounds++; rounds > 4 {
			return b.full
		}
		b = b.thinned()
	}
	if rounds == 0 {
		b.t.Fatalf("%s: there was always room", b.what)
	}
	return b.full
}

// thinned is the tree with fewer keys, committed; on a device without room that may need room, too.
func (b *both) thinned() *both {
	b.t.Helper()
	for n, key := range slices.Sorted(maps.Keys(b.m)) {
		if n > 12 {
			break
		}
		if b.delete([]byte(key)) == api.ErrFull || b.commit() == api.ErrFull {
			b = b.undone()
			b.told("ErrFull of a Delete, Abort and At")
			continue
		}
		b.right("Delete")
		if len(b.m)%4 == 0 {
			break
		}
	}
	return b
}

// P11.7: with just 3 * height + 2 free pages, and no page of this transaction, each Put and each Delete has room.
func TestJustEnoughRoom(t *testing.T) {
	t.Parallel()
	for _, s := range sorts {
		for _, count := range []int{0, 1, 10, 60, 200} {
			b := grown(t, 700, 8, s, count)
			_, height := b.x.Root()
			for b.p.Avail() > 3*height+2 {
				_, e := b.p.NewRaw([]byte("another's"))
				wantErr(t, "NewRaw", e, api.OK)
			}
			wantErr(t, "Commit", b.commit(), api.OK)
			if b.p.Avail() != 3*height+2 {
				t.Fatalf("%d pages are free", b.p.Avail())
			}
			for i := range 210 {
				for _, val := range [][]byte{nil, longVal(i), s.val(i)} {
					b.alone(func() api.Errno { return b.put(s.key(i), val) })
					b.alone(func() api.Errno { return b.put(append(s.key(i)[:2], 'm'), val) })
				}
				b.alone(func() api.Errno { return b.delete(s.key(i)) })
			}
		}
	}
}

// alone does one act in a transaction of its own, and undoes it: ErrFull is not its answer.
func (b *both) alone(act func() api.Errno) {
	b.t.Helper()
	x, m := b.x, b.m
	root, height := x.Root()
	b.x, b.m = at(b.t, b.p, root, height), maps.Clone(m)
	if act() == api.ErrFull {
		b.t.Fatalf("%s: there is no room at height %d with %d free pages", b.what, height, b.p.Avail())
	}
	high, deep := b.x.Root()
	if r := readTree(b.p, high, deep); r.wrong != "" {
		b.t.Fatalf("%s: %s", b.what, r.wrong)
	}
	wantErr(b.t, "Abort", b.p.Abort(), api.OK)
	b.x, b.m = x, m
}

// P11.2: behind ErrFull no call panics, and each ends.
func TestCallsBehindErrFull(t *testing.T) {
	for pages := 8; pages < 40; pages++ {
		s := sorts[pages%len(sorts)]
		b := empty(t, pages, 3)
		r := draws(pages)
		for i := 0; b.put(s.key(i), s.val(i)) == api.OK; i++ {
			if b.p.Avail() > pages/2 {
				wantErr(t, "Commit", b.commit(), api.OK)
			}
		}
		for range 100 {
			i := r.below(500)
			b.x.Put(s.key(i), s.val(i))
			b.x.Delete(s.key(i / 2))
			b.x.Get(s.key(i))
			b.x.Pages()
			for range b.x.Nodes() {
			}
		}
	}
}
