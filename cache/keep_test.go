package cache_test

import (
	"bytes"
	"fmt"
	"slices"
	"testing"

	"incipit/api"
)

// P5.2: a page that is not held is neither pinned, unpinned nor forgotten.
func TestOfWhatIsNotHeld(t *testing.T) {
	c, d := made(t, 2)
	wantPut(t, c, 0, page(1))
	for p := 1; p < 12; p++ {
		wantErr(t, fmt.Sprint("Pin ", p), c.Pin(p), api.ErrNone)
		wantErr(t, fmt.Sprint("Unpin ", p), c.Unpin(p), api.ErrNone)
		wantErr(t, fmt.Sprint("Forget ", p), c.Forget(p), api.ErrNone)
	}
	wantTold(t, "not held", c, told{held: []int{0}, changed: []int{0}, misses: 1})
	wantGet(t, "read", c, 1, shown(1))
	wantErr(t, "Unpin of what was not held when it was pinned", c.Unpin(1), api.ErrNone)
	wantErr(t, "Forget", c.Forget(1), api.OK)
	wantErr(t, "Forget of what was forgotten", c.Forget(1), api.ErrNone)
	wantErr(t, "Pin of what was forgotten", c.Pin(1), api.ErrNone)
	wantErr(t, "Unpin of what was forgotten", c.Unpin(1), api.ErrNone)
	wantTold(t, "forgotten", c, told{held: []int{0}, changed: []int{0}, misses: 2})
	wantWaits(t, "forgotten", d, 0)
}

// P5.2: a page that was pinned so often must be unpinned as often till it may go, or be forgotten.
func TestPinnedSoOften(t *testing.T) {
	for n := range 6 {
		c, _ := made(t, 2)
		wantPut(t, c, 0, page(1))
		wantPut(t, c, 1, page(2))
		wantPin(t, c, 1)
		for range n {
			wantPin(t, c, 0)
		}
		for left := n; left > 0; left-- {
			what := fmt.Sprintf("pinned %d times, left %d", n, left)
			wantErr(t, what+": Forget", c.Forget(0), api.ErrBusy)
			wantNoGet(t, what, c, 2, api.ErrFull)
			wantErr(t, what+": Unpin", c.Unpin(0), api.OK)
		}
		wantErr(t, "Unpin once too often", c.Unpin(0), api.ErrNone)
		wantErr(t, "Unpin once too often", c.Unpin(0), api.ErrNone)
		wantTold(t, "not pinned any more", c, told{held: []int{1, 0}, changed: []int{0, 1}, misses: 2 + n})
		wantPin(t, c, 0) // what was answered ErrNone took nothing away
		wantErr(t, "pinned again", c.Forget(0), api.ErrBusy)
		wantErr(t, "Unpin", c.Unpin(0), api.OK)
		wantErr(t, "not pinned", c.Forget(0), api.OK)
	}
}

// P5.2: each page is pinned for itself.
func TestPinsOfEachPage(t *testing.T) {
	c, _ := made(t, 4)
	useAll(t, c, []int{0, 1, 2, 3}, 5)
	for p := range 4 {
		for range p {
			wantPin(t, c, p)
		}
	}
	for p := range 4 {
		wantPins(t, "each for itself", c, p, p)
	}
	wantPut(t, c, 2, page(9))
	wantGet(t, "pinned", c, 3, shown(3))
	wantErr(t, "Flush", c.Flush(), api.OK)
	for p := range 4 {
		wantPins(t, "behind Put, Get and Flush", c, p, p)
	}
}

// P5.2: a changed page that is forgotten is not written, not even by a Flush behind it; the device tells again what it shows.
func TestForgetDoesNotWrite(t *testing.T) {
	c, d := made(t, 3)
	useAll(t, c, []int{4, 5, 6}, 5)
	wantErr(t, "Forget of a changed one", c.Forget(4), api.OK)
	wantTold(t, "a changed one", c, told{held: []int{6, 5}, changed: []int{6}, misses: 3})
	wantErr(t, "Forget of one that is not changed", c.Forget(5), api.OK)
	wantTold(t, "one that is not changed", c, told{held: []int{6}, changed: []int{6}, misses: 3})
	wantErr(t, "Forget of the last one", c.Forget(6), api.OK)
	wantTold(t, "the last one", c, told{misses: 3})
	wantErr(t, "Flush", c.Flush(), api.OK)
	wantWaits(t, "Forget", d, 0)
	wantGet(t, "forgotten", c, 4, shown(4))
	wantTold(t, "read again", c, told{held: []int{4}, misses: 4})
}

// P5.2: what was busy stays as it was.
func TestForgetOfWhatIsPinned(t *testing.T) {
	c, d := made(t, 2)
	wantPut(t, c, 4, page(4))
	wantPin(t, c, 4)
	wantErr(t, "Forget", c.Forget(4), api.ErrBusy)
	wantTold(t, "busy", c, told{held: []int{4}, changed: []int{4}, misses: 1})
	wantPins(t, "busy", c, 4, 1)
	wantGet(t, "busy", c, 4, page(4))
	wantWaits(t, "busy", d, 0)
}

// P5.2: Flush writes each page that is changed, and none else, once.
func TestFlush(t *testing.T) {
	for puts := range 16 {
		c, d := made(t, 4)
		uses := []int{9, 2, 7, 4}
		useAll(t, c, uses, puts)
		wantPin(t, c, 9)
		n := len(c.Changed())
		for range 2 { // the second one finds nothing that is changed
			wantErr(t, "Flush", c.Flush(), api.OK)
			wantWaits(t, fmt.Sprintf("Flush behind puts %04b", puts), d, n)
			wantTold(t, "Flush", c, told{held: []int{4, 7, 2, 9}, misses: 4})
		}
		for i, p := range uses {
			is := shown(p)
			if puts>>i&1 == 1 {
				is = page(byte(p))
			}
			wantShown(t, "Flush", d, p, is)
			wantGet(t, "Flush", c, p, is)
		}
		wantPins(t, "Flush", c, 9, 1)
	}
}

// P5.2: Flush waits for no sync: it writes alone.
func TestFlushDoesNotSync(t *testing.T) {
	c, d := made(t, 2)
	wantPut(t, c, 3, page(3))
	image := d.Image()
	wantErr(t, "Flush", c.Flush(), api.OK)
	if !bytes.Equal(d.Image(), image) || d.Waits() != 1 || d.Ops() != 1 {
		t.Fatal("Flush did something else than to write")
	}
}

// P5.2: Flush goes by rising pages: those that were written till the power went are the lowest ones, in each order of use.
func TestFlushGoesByRisingPages(t *testing.T) {
	for _, uses := range [][]int{{1, 4, 6, 9}, {9, 6, 4, 1}, {6, 1, 9, 4}, {4, 9, 1, 6}} {
		for left := range 6 {
			c, d := made(t, 5)
			wantGet(t, "not changed", c, 3, shown(3))
			useAll(t, c, uses, 15)
			order := c.Held()
			wantErr(t, "Arm", d.Arm(left), api.OK)
			e := api.OK
			if left < 4 {
				e = api.ErrPower
			}
			what := fmt.Sprintf("Flush of %v with %d left", uses, left)
			wantErr(t, what, c.Flush(), e)
			rising := []int{1, 4, 6, 9}
			wantTold(t, what, c, told{held: order, changed: rising[min(left, 4):], misses: 5})
			wantWaits(t, what, d, min(left+1, 4)) // the write at which the power goes waits, too
			wantErr(t, "Crash", d.Crash(4, 4, 4, 4), api.OK)
			for i, p := range rising {
				is := shown(p)
				if i <= left {
					is = page(byte(p))
				}
				wantShown(t, what, d, p, is)
			}
			wantErr(t, what+": again", c.Flush(), api.OK)
			wantTold(t, what+": again", c, told{held: order, misses: 5})
			for _, p := range rising {
				wantShown(t, what+": again", d, p, page(byte(p)))
			}
		}
	}
}

// P5.2: a page that is put behind a Flush is changed again.
func TestPutBehindFlush(t *testing.T) {
	c, d := made(t, 2)
	wantPut(t, c, 3, page(1))
	wantErr(t, "Flush", c.Flush(), api.OK)
	wantPut(t, c, 3, page(2))
	wantTold(t, "put again", c, told{held: []int{3}, changed: []int{3}, hits: 1, misses: 1})
	wantShown(t, "put again", d, 3, page(1))
	wantErr(t, "Flush", c.Flush(), api.OK)
	wantShown(t, "flushed again", d, 3, page(2))
}

// P5.2: behind Drop nothing is held, changed or pinned, nothing was written; what was counted stays.
func TestDrop(t *testing.T) {
	c, d := made(t, 3)
	c.Drop()
	wantTold(t, "Drop of nothing", c, told{})
	useAll(t, c, []int{2, 5, 8, 8}, 5)
	wantPin(t, c, 2)
	wantPin(t, c, 2)
	wantPin(t, c, 5)
	c.Drop()
	wantTold(t, "Drop", c, told{hits: 1, misses: 3})
	wantErr(t, "Flush", c.Flush(), api.OK)
	wantWaits(t, "Drop", d, 0)
	for _, p := range []int{2, 5, 8} {
		wantErr(t, "Pin behind Drop", c.Pin(p), api.ErrNone)
		wantErr(t, "Unpin behind Drop", c.Unpin(p), api.ErrNone)
		wantErr(t, "Forget behind Drop", c.Forget(p), api.ErrNone)
		wantGet(t, "read again", c, p, shown(p))
		wantPins(t, "read again", c, p, 0)
	}
	wantTold(t, "read again", c, told{held: []int{8, 5, 2}, hits: 1, misses: 6})
}

// P5.2: Held goes by uses, Changed and All by pages.
func TestHeldChangedAll(t *testing.T) {
	c, _ := made(t, 5)
	useAll(t, c, []int{7, 11, 0, 3, 10, 7, 0}, 0b0001110) // 11, 0 and 3 are put
	if got := c.Held(); !slices.Equal(got, []int{0, 7, 10, 3, 11}) {
		t.Fatal("Held", got)
	}
	if got := c.Changed(); !slices.Equal(got, []int{0, 3, 11}) {
		t.Fatal("Changed", got)
	}
	want := []state{{0, true}, {3, true}, {7, false}, {10, false}, {11, true}}
	if got := all(c); !slices.Equal(got, want) {
		t.Fatal("All", got)
	}
	for p := range 12 {
		if c.Has(p) != (p == 0 || p == 3 || p == 7 || p >= 10) {
			t.Fatal("Has", p)
		}
	}
	if hits, misses := c.Counts(); hits != 2 || misses != 5 {
		t.Fatal("Counts", hits, misses)
	}
}
