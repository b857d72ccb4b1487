package cache_test

import (
	"bytes"
	"fmt"
	"slices"
	"testing"

	"incipit/api"
	"incipit/cache"
)

// The chapter's example.
func TestTheExample(t *testing.T) {
	c, d := made(t, 2)
	wantPut(t, c, 0, page(1))
	wantPut(t, c, 1, page(2))
	wantWaits(t, "the example", d, 0)
	wantGet(t, "the example", c, 2, shown(2))
	wantTold(t, "the example", c, told{held: []int{2, 1}, changed: []int{1}, misses: 3})
	wantWaits(t, "the example", d, 1)
	wantShown(t, "the example", d, 0, page(1))
	wantShown(t, "the example", d, 1, shown(1))
}

// lastUsed answers the pages of uses, the one that stands there last first.
func lastUsed(uses []int) []int {
	var out []int
	for _, p := range slices.Backward(uses) {
		if !slices.Contains(out, p) {
			out = append(out, p)
		}
	}
	return out
}

// useAll uses pages in a row, by Get or by Put as the bits of puts say.
func useAll(t *testing.T, c *cache.Cache, uses []int, puts int) {
	t.Helper()
	for i, p := range uses {
		if puts>>i&1 == 1 {
			wantPut(t, c, p, page(byte(p)))
		} else if _, e := c.Get(p); e != api.OK {
			t.Fatal("Get", p, e)
		}
	}
}

// rows calls f with each row of n numbers below most.
func rows(n, most int, f func([]int)) {
	row := make([]int, n)
	for {
		f(row)
		at := 0
		for at < n && row[at] == most-1 {
			row[at] = 0
			at++
		}
		if at == n {
			return
		}
		row[at]++
	}
}

// P5.1: behind any row of uses the one that was used longest ago has gone, whether by Get or Put.
func TestTheOneUsedLongestAgoGoes(t *testing.T) {
	for n := range 6 {
		rows(n, 4, func(uses []int) {
			for puts := range 1 << n {
				c, _ := made(t, 3)
				useAll(t, c, uses, puts)
				want := lastUsed(uses)
				if !slices.Equal(c.Held(), want[:min(len(want), 3)]) {
					t.Fatalf("behind uses of %v (Put: %b) it holds %v", uses, puts, c.Held())
				}
			}
		})
	}
}

// P5.1, P5.2: Pin, Unpin, Has, Flush and the calls that tell are no uses.
func TestWhatIsNoUse(t *testing.T) {
	for p := range 3 {
		c, _ := made(t, 3)
		useAll(t, c, []int{0, 1, 2}, 7)
		wantPin(t, c, p)
		wantErr(t, "Unpin", c.Unpin(p), api.OK)
		c.Has(p)
		wantErr(t, "Flush", c.Flush(), api.OK)
		c.Held()
		c.Changed()
		all(c)
		wantGet(t, "another one", c, 5, shown(5))
		wantTold(t, fmt.Sprint("behind no use of ", p), c, told{held: []int{5, 2, 1}, misses: 4})
	}
}

// P5.1: of the pages that are not pinned the one that was used longest ago goes; ErrFull, if all are pinned.
func TestPinnedOnesDoNotGo(t *testing.T) {
	for pinned := range 16 {
		for _, byPut := range []bool{false, true} {
			c, _ := made(t, 4)
			order := []int{6, 1, 9, 4} // the one that was used longest ago first
			useAll(t, c, order, 0)
			goes := -1
			for i, p := range slices.Backward(order) {
				if pinned>>i&1 == 1 {
					wantPin(t, c, p)
				} else {
					goes = p
				}
			}
			want, e := []int{4, 9, 1, 6}, api.ErrFull
			if goes >= 0 {
				want = slices.DeleteFunc([]int{3, 4, 9, 1, 6}, func(p int) bool { return p == goes })
				e = api.OK
			}
			var got api.Errno
			if byPut {
				got = c.Put(3, page(3))
			} else {
				_, got = c.Get(3)
			}
			what := fmt.Sprintf("pinned %04b, by Put: %v", pinned, byPut)
			wantErr(t, what, got, e)
			if !slices.Equal(c.Held(), want) {
				t.Fatalf("%s: it holds %v, not %v", what, c.Held(), want)
			}
		}
	}
}

// P5.1, R2: where all are pinned nothing goes, nothing is written, and all stays as it was but for the count.
func TestAllPinned(t *testing.T) {
	c, d := made(t, 2)
	wantPut(t, c, 0, page(1))
	wantGet(t, "read", c, 1, shown(1))
	wantPin(t, c, 0)
	wantPin(t, c, 1)
	wantNoGet(t, "all pinned", c, 2, api.ErrFull)
	wantErr(t, "all pinned: Put", c.Put(2, page(2)), api.ErrFull)
	wantTold(t, "all pinned", c, told{held: []int{1, 0}, changed: []int{0}, misses: 4})
	wantWaits(t, "all pinned", d, 0)
	wantGet(t, "held", c, 0, page(1)) // what is held needs no room
	wantPut(t, c, 1, page(3))
	wantGet(t, "held", c, 1, page(3))
	wantErr(t, "Unpin", c.Unpin(1), api.OK)
	wantGet(t, "one is not pinned", c, 2, shown(2))
	wantTold(t, "one is not pinned", c, told{held: []int{2, 0}, changed: []int{0}, hits: 3, misses: 5})
	wantShown(t, "one is not pinned", d, 1, page(3))
	wantWaits(t, "one is not pinned", d, 1)
}

// P5.1: a changed page that goes is written, and it alone; one that is not changed is not written.
func TestWhatGoesIsWrittenIfItIsChanged(t *testing.T) {
	c, d := made(t, 3)
	wantPut(t, c, 0, page(1))
	wantGet(t, "read", c, 1, shown(1))
	wantPut(t, c, 2, page(2))
	wantPut(t, c, 3, page(3)) // page 0 goes
	wantWaits(t, "a changed one", d, 1)
	wantShown(t, "a changed one", d, 0, page(1))
	wantPut(t, c, 4, page(4)) // page 1 goes
	wantWaits(t, "one that is not changed", d, 1)
	wantErr(t, "Flush", c.Flush(), api.OK)
	wantWaits(t, "Flush", d, 4)
	wantGet(t, "read", c, 5, shown(5)) // page 2 goes
	wantWaits(t, "one that was flushed", d, 4)
	wantTold(t, "behind all", c, told{held: []int{5, 4, 3}, misses: 6})
	wantGet(t, "read again", c, 0, page(1)) // page 3 goes
	wantGet(t, "read again", c, 2, page(2))
	wantTold(t, "read again", c, told{held: []int{2, 0, 5}, misses: 8})
}

// P5.1: where fewer are held than may be nothing goes, also behind a Forget.
func TestRoomThatIsThere(t *testing.T) {
	c, d := made(t, 3)
	useAll(t, c, []int{0, 1, 2}, 7)
	wantErr(t, "Forget", c.Forget(1), api.OK)
	wantGet(t, "there is room", c, 5, shown(5))
	wantTold(t, "there is room", c, told{held: []int{5, 2, 0}, changed: []int{0, 2}, misses: 4})
	wantWaits(t, "there is room", d, 0)
	c.Drop()
	useAll(t, c, []int{3, 4, 5}, 7)
	wantTold(t, "behind Drop", c, told{held: []int{5, 4, 3}, changed: []int{3, 4, 5}, misses: 7})
	wantWaits(t, "behind Drop", d, 0)
}

// P5.1: a page that went, and comes again, is pinned no more and changed no more.
func TestAPageThatComesAgain(t *testing.T) {
	c, _ := made(t, 2)
	wantPut(t, c, 0, page(1))
	wantPin(t, c, 0)
	wantErr(t, "Unpin", c.Unpin(0), api.OK)
	useAll(t, c, []int{1, 2, 0}, 0)
	wantErr(t, "Unpin", c.Unpin(0), api.ErrNone)
	wantTold(t, "it comes again", c, told{held: []int{0, 2}, misses: 4})
}

// P5.1: if the page that goes can't be written nothing goes, not even another one that need not be written.
func TestWhereTheWriteFailsNothingGoes(t *testing.T) {
	for _, byPut := range []bool{false, true} {
		c, d := made(t, 3)
		wantPut(t, c, 0, page(1))
		wantGet(t, "read", c, 1, shown(1))
		wantGet(t, "read", c, 2, shown(2))
		wantErr(t, "Arm", d.Arm(0), api.OK)
		for range 2 { // the power goes at the first one, and is gone at the second one
			if byPut {
				wantErr(t, "Put", c.Put(3, page(3)), api.ErrPower)
			} else {
				wantNoGet(t, "no write", c, 3, api.ErrPower)
			}
		}
		wantTold(t, "no write", c, told{held: []int{2, 1, 0}, changed: []int{0}, misses: 5})
		wantWaits(t, "no write", d, 1)
		wantGet(t, "held", c, 0, page(1))
		wantErr(t, "Crash", d.Crash(), api.OK)
		wantErr(t, "Flush", c.Flush(), api.OK)
		wantShown(t, "written behind a crash", d, 0, page(1))
	}
}

// P5.1: with one write left one page goes; at the next one the power does.
func TestPowerGoesWhileRoomIsMade(t *testing.T) {
	for left := range 5 {
		c, d := made(t, 4)
		useAll(t, c, []int{0, 1, 2, 3}, 15)
		wantErr(t, "Arm", d.Arm(left), api.OK)
		for i := range 4 {
			e := api.OK
			if i >= left {
				e = api.ErrPower
			}
			wantErr(t, fmt.Sprintf("left %d: Put(%d)", left, i+4), c.Put(i+4, page(byte(i+4))), e)
		}
		var want []int
		for p := left; p < 4+left; p++ {
			want = append(want, p)
		}
		held := slices.Clone(want)
		slices.Reverse(held)
		wantTold(t, fmt.Sprint("left ", left), c, told{held: held, changed: want, misses: 8})
		wantErr(t, "Crash", d.Crash(4, 4, 4, 4, 4), api.OK)
		for p := range 4 {
			is := shown(p)
			if p <= left {
				is = page(byte(p)) // at p == left it is the write at which the power went: it waited all the same
			}
			if b, _ := d.Read(p); !bytes.Equal(b, is) {
				t.Fatalf("left %d: page %d shows %v", left, p, b)
			}
		}
	}
}
