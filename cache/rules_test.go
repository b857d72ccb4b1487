package cache_test

import (
	"bytes"
	"fmt"
	"math"
	"slices"
	"testing"

	"incipit/api"
	"incipit/cache"
)

// R5: of a cache that no call made calls with an error answer ErrMade, whatever else is wrong; all others their zero value.
func TestCachesThatNoCallMade(t *testing.T) {
	for what, c := range map[string]*cache.Cache{"nil": nil, "zero": {}} {
		for _, p := range []int{math.MinInt, -1, 0, 1, 2048, math.MaxInt} {
			wantNoGet(t, what, c, p, api.ErrMade)
			for _, b := range [][]byte{nil, {1}, page(1), run(257, 1)} {
				wantErr(t, what+": Put", c.Put(p, b), api.ErrMade)
			}
			wantErr(t, what+": Pin", c.Pin(p), api.ErrMade)
			wantErr(t, what+": Unpin", c.Unpin(p), api.ErrMade)
			wantErr(t, what+": Forget", c.Forget(p), api.ErrMade)
		}
		wantErr(t, what+": Flush", c.Flush(), api.ErrMade)
		c.Drop()
		wantTold(t, what, c, told{})
		if c.All() == nil {
			t.Error(what, "All can't be ranged over")
		}
	}
}

// R3: bytes that were handed in are not written to, and not kept: their owner may change them.
func TestBytesThatAreHandedIn(t *testing.T) {
	c, d := made(t, 2)
	b := run(api.PageSize+8, 1)
	given := b[4 : 4+api.PageSize : 4+api.PageSize]
	for _, p := range []int{5, 5, 6} { // of a page that is not held, and of one that is
		wantPut(t, c, p, given)
	}
	wantErr(t, "Put of others", c.Put(5, b), api.ErrArg)
	wantGet(t, "held", c, 5, run(api.PageSize+8, 1)[4:260])
	wantErr(t, "Flush", c.Flush(), api.OK)
	if !bytes.Equal(b, run(api.PageSize+8, 1)) {
		t.Fatal("what was handed in was written to")
	}
	clear(b)
	for _, p := range []int{5, 6} {
		wantGet(t, "its owner changed it", c, p, run(api.PageSize+8, 1)[4:260])
		wantShown(t, "its owner changed it", d, p, run(api.PageSize+8, 1)[4:260])
	}
	wantPut(t, c, 5, run(api.PageSize, 2))
	if !bytes.Equal(b, make([]byte, api.PageSize+8)) {
		t.Fatal("what was handed in was written to later")
	}
}

// R3: bytes that were answered are nobody's else, and stay as they were.
func TestBytesThatAreAnswered(t *testing.T) {
	c, d := made(t, 2)
	wantPut(t, c, 3, page(3))
	for p, want := range [][]byte{3: page(3), 4: shown(4)} {
		if want == nil {
			continue
		}
		first, e := c.Get(p) // a miss of page 4
		wantErr(t, "Get", e, api.OK)
		again, e := c.Get(p)
		wantErr(t, "Get", e, api.OK)
		for i := range first {
			first[i] ^= 255
		}
		_ = append(first, page(9)...)
		if !bytes.Equal(again, want) {
			t.Fatal("two answers share their bytes")
		}
		wantGet(t, "an answer was changed", c, p, want)
		wantPut(t, c, p, page(7))
		wantErr(t, "Flush", c.Flush(), api.OK)
		if !bytes.Equal(again, want) {
			t.Fatal("an answer changed with the cache")
		}
		wantShown(t, "Flush", d, p, page(7))
	}
}

// R3: an answer that was handed in again is kept no more than other bytes.
func TestAnAnswerThatIsPut(t *testing.T) {
	c, _ := made(t, 2)
	b, e := c.Get(3)
	wantErr(t, "Get", e, api.OK)
	wantPut(t, c, 3, b)
	wantPut(t, c, 4, b)
	clear(b)
	wantGet(t, "page 3", c, 3, shown(3))
	wantGet(t, "page 4", c, 4, shown(3))
}

// R3: lists that were answered are nobody's else, and stay as they were.
func TestListsThatAreAnswered(t *testing.T) {
	c, _ := made(t, 4)
	useAll(t, c, []int{5, 2, 8}, 7)
	want := told{held: []int{8, 2, 5}, changed: []int{2, 5, 8}, misses: 3}
	held, changed := c.Held(), c.Changed()
	for i := range 3 {
		held[i], changed[i] = -1, -1
	}
	_, _ = append(held, 4), append(changed, 4)
	wantTold(t, "lists were changed", c, want)
	held, changed = c.Held(), c.Changed()
	wantGet(t, "used", c, 5, page(5))
	wantErr(t, "Flush", c.Flush(), api.OK)
	wantErr(t, "Forget", c.Forget(2), api.OK)
	if !slices.Equal(held, want.held) || !slices.Equal(changed, want.changed) {
		t.Fatal("lists changed with the cache")
	}
}

// R3: caches of one device share it, and nothing else.
func TestTwoCachesOfOneDevice(t *testing.T) {
	c, d := made(t, 2)
	other, e := cache.New(d, 3)
	wantErr(t, "New", e, api.OK)
	wantPut(t, c, 1, page(1))
	wantPin(t, c, 1)
	wantTold(t, "the other one", other, told{})
	wantGet(t, "not written yet", other, 1, shown(1))
	wantErr(t, "Unpin", other.Unpin(1), api.ErrNone)
	wantErr(t, "Flush", c.Flush(), api.OK)
	wantGet(t, "held as it was", other, 1, shown(1))
	other.Drop()
	wantGet(t, "the device is shared", other, 1, page(1))
	wantTold(t, "the one", c, told{held: []int{1}, misses: 1})
}

// R3: All may be left at any point, and ranged over again.
func TestAllThatIsStopped(t *testing.T) {
	c, _ := made(t, 5)
	useAll(t, c, []int{9, 1, 6, 3}, 5)
	want := []state{{1, false}, {3, false}, {6, true}, {9, true}}
	it := c.All()
	for stop := range 5 {
		var got []state
		for p, is := range it {
			if len(got) == stop {
				break
			}
			got = append(got, state{p, is})
		}
		if !slices.Equal(got, want[:stop]) {
			t.Fatal("stopped at", stop, got)
		}
	}
	for range 2 {
		for p := range it { // one within the other
			n := 0
			for range it {
				n++
			}
			if n != 4 {
				t.Fatal("within", p, n)
			}
		}
	}
	wantTold(t, "ranged over", c, told{held: []int{3, 6, 1, 9}, changed: []int{6, 9}, misses: 4})
}

// R3: All tells what was there when one began to range over it, whatever is done to the cache meanwhile.
func TestAllWhileTheCacheIsChanged(t *testing.T) {
	for name, change := range map[string]func(c *cache.Cache){
		"Drop":   func(c *cache.Cache) { c.Drop() },
		"Flush":  func(c *cache.Cache) { c.Flush() },
		"Forget": func(c *cache.Cache) { c.Forget(6) },
		"Put":    func(c *cache.Cache) { c.Put(6, page(1)); c.Put(1, page(1)); c.Put(3, page(1)) },
		"Get":    func(c *cache.Cache) { c.Get(0); c.Get(4); c.Get(11); c.Get(7) },
	} {
		for at := range 4 {
			c, _ := made(t, 4)
			useAll(t, c, []int{9, 1, 6, 3}, 5)
			it := c.All()
			var got []state
			for p, is := range it {
				if len(got) == at {
					change(c)
				}
				got = append(got, state{p, is})
			}
			if want := []state{{1, false}, {3, false}, {6, true}, {9, true}}; !slices.Equal(got, want) {
				t.Fatalf("%s at %d: All tells %v", name, at, got)
			}
			if again := slices.Collect(pagesOf(it)); !slices.Equal(again, slices.Sorted(slices.Values(c.Held()))) {
				t.Fatalf("%s at %d: ranged over again All tells %v", name, at, again)
			}
		}
	}
}

// pagesOf tells the pages of what All tells.
func pagesOf(it func(func(int, bool) bool)) func(func(int) bool) {
	return func(yield func(int) bool) {
		it(func(p int, _ bool) bool { return yield(p) })
	}
}

// R3: what counts is when one began to range, not when All was called.
func TestAllAheadOfAChange(t *testing.T) {
	c, _ := made(t, 4)
	it := c.All()
	useAll(t, c, []int{9, 1}, 1)
	var got []state
	for p, is := range it {
		got = append(got, state{p, is})
	}
	if !slices.Equal(got, []state{{1, false}, {9, true}}) {
		t.Fatal("All tells", got)
	}
}

// R6: the same calls answer the same, and write in the same order, also with as many pages as may be.
func TestTheSameCallsAnswerTheSame(t *testing.T) {
	life := func() string {
		d := device(t, 200)
		c, e := cache.New(d, api.MaxCache)
		wantErr(t, "New", e, api.OK)
		var r draws = 5
		for range 3000 {
			p := r.below(200)
			if r.below(2) == 0 {
				wantPut(t, c, p, r.page())
			} else if _, e := c.Get(p); e != api.OK {
				t.Fatal(e)
			}
		}
		before := fmt.Sprint(c.Held(), c.Changed(), all(c))
		wantErr(t, "Arm", d.Arm(9), api.OK)
		wantErr(t, "Flush", c.Flush(), api.ErrPower)
		wantErr(t, "Crash", d.Crash(r.picks(d.Waits())...), api.OK)
		return fmt.Sprint(before, c.Held(), c.Changed(), all(c), d.Image())
	}
	first := life()
	for range 4 {
		if life() != first {
			t.Fatal("the same calls answered something else")
		}
	}
}

// THE BOUND: many calls go over what is held, not over what was used or written before.
func TestManyCallsInTime(t *testing.T) {
	d := device(t, api.MaxPages)
	c, e := cache.New(d, api.MaxCache)
	wantErr(t, "New", e, api.OK)
	b := page(1)
	for i := range 300_000 {
		p := i * 7 % 100
		if i%3 == 0 {
			wantPut(t, c, p, b)
		} else if _, e := c.Get(p); e != api.OK {
			t.Fatal(e)
		}
		if i%1000 == 0 {
			wantErr(t, "Sync", d.Sync(), api.OK)
		}
	}
	if len(c.Held()) != api.MaxCache {
		t.Fatal("Held", len(c.Held()))
	}
}
