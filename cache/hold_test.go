package cache_test

import (
	"fmt"
	"math"
	"testing"

	"incipit/api"
	"incipit/cache"
	"incipit/disk"
)

var sizesThatMayNotBe = []int{math.MinInt, -1 << 32, -api.MaxCache, -2, -1, 0, api.MinCache - 1, api.MaxCache + 1, 1 << 32, math.MaxInt}

var pagesThatThereAreNot = []int{math.MinInt, -1 << 32, -12, -1, 12, 13, 2048, 1 << 32, math.MaxInt}

// P5.1: which devices, and which sizes, may be; of two errors it is ErrMade.
func TestNew(t *testing.T) {
	for _, d := range []*disk.Disk{nil, {}, (&disk.Disk{}).Clone()} {
		for _, size := range append([]int{api.MinCache, 7, api.MaxCache}, sizesThatMayNotBe...) {
			if c, e := cache.New(d, size); e != api.ErrMade || c != nil {
				t.Error("New of no device", size, c, e)
			}
		}
	}
	d := device(t, 8)
	for _, size := range sizesThatMayNotBe {
		if c, e := cache.New(d, size); e != api.ErrArg || c != nil {
			t.Error("New", size, c, e)
		}
	}
	for size := api.MinCache; size <= api.MaxCache; size++ {
		c, e := cache.New(d, size)
		wantErr(t, fmt.Sprint("New ", size), e, api.OK)
		wantTold(t, fmt.Sprint("New ", size), c, told{})
	}
	if d.Ops() != 0 || d.Waits() != 0 {
		t.Error("New wrote to the device")
	}
}

// P5.1: New does not ask for the power.
func TestNewWithoutPower(t *testing.T) {
	d := device(t, 8)
	cut(t, d, 0)
	c, e := cache.New(d, 2)
	wantErr(t, "New", e, api.OK)
	wantTold(t, "New", c, told{})
	if c, e := cache.New(d, 1); e != api.ErrArg || c != nil {
		t.Error("New of a size that may not be", c, e)
	}
}

// P5.1: a cache of so many pages holds so many, and no more.
func TestSoManyAreHeld(t *testing.T) {
	d := device(t, 80)
	for size := api.MinCache; size <= api.MaxCache; size++ {
		c, e := cache.New(d, size)
		wantErr(t, "New", e, api.OK)
		for p := range 80 {
			wantGet(t, "so many", c, p, page(0))
			if len(c.Held()) != min(p+1, size) || c.Has(p-size) || !c.Has(max(p-size+1, 0)) {
				t.Fatalf("size %d: behind page %d it holds %v", size, p, c.Held())
			}
		}
	}
}

// P5.1: of pages that there are not nothing is held, and nothing counted.
func TestPagesThatThereAreNot(t *testing.T) {
	c, d := made(t, 3)
	wantPut(t, c, 0, page(1))
	wantPut(t, c, 11, page(2))
	wantGet(t, "the first page", c, 0, page(1))
	wantGet(t, "the last page", c, 11, page(2))
	for _, p := range pagesThatThereAreNot {
		wantNoGet(t, "no page", c, p, api.ErrArg)
		wantErr(t, fmt.Sprint("Put ", p), c.Put(p, page(3)), api.ErrArg)
		wantErr(t, fmt.Sprint("Put of nil ", p), c.Put(p, nil), api.ErrArg)
		wantErr(t, fmt.Sprint("Pin ", p), c.Pin(p), api.ErrNone)
		wantErr(t, fmt.Sprint("Unpin ", p), c.Unpin(p), api.ErrNone)
		wantErr(t, fmt.Sprint("Forget ", p), c.Forget(p), api.ErrNone)
		if c.Has(p) {
			t.Error("Has", p)
		}
	}
	wantTold(t, "behind no pages", c, told{held: []int{11, 0}, changed: []int{0, 11}, hits: 2, misses: 2})
	wantWaits(t, "behind no pages", d, 0)
}

// P5.1: ErrArg stands ahead of ErrFull and ErrPower, and nothing is counted, and no room made.
func TestErrArgFirst(t *testing.T) {
	c, d := made(t, 2)
	for p := range 2 {
		wantPut(t, c, p, page(1))
		wantPin(t, c, p)
	}
	cut(t, d, 5)
	for _, p := range pagesThatThereAreNot {
		wantNoGet(t, "no page", c, p, api.ErrArg)
		wantErr(t, "Put of no page", c.Put(p, page(3)), api.ErrArg)
	}
	wantErr(t, "Put of other bytes", c.Put(2, page(3)[1:]), api.ErrArg)
	wantTold(t, "all pinned", c, told{held: []int{1, 0}, changed: []int{0, 1}, misses: 2})
	wantErr(t, "Unpin", c.Unpin(0), api.OK)
	wantErr(t, "Put of other bytes", c.Put(2, nil), api.ErrArg)
	wantTold(t, "without power", c, told{held: []int{1, 0}, changed: []int{0, 1}, misses: 2})
}

// P5.1: Put takes PageSize bytes, and no others; of others nothing is held, changed, used or counted.
func TestPutOfOtherBytes(t *testing.T) {
	c, d := made(t, 2)
	wantGet(t, "held", c, 3, shown(3))
	wantGet(t, "held", c, 4, shown(4))
	for _, n := range []int{0, 1, 64, 240, 255, 257, 512, 12 * 256} {
		for _, p := range []int{3, 4, 5} {
			wantErr(t, fmt.Sprintf("Put(%d) of %d bytes", p, n), c.Put(p, run(n, 1)), api.ErrArg)
		}
	}
	wantErr(t, "Put of nil", c.Put(3, nil), api.ErrArg)
	wantTold(t, "behind other bytes", c, told{held: []int{4, 3}, misses: 2})
	wantGet(t, "behind other bytes", c, 3, shown(3))
	wantWaits(t, "behind other bytes", d, 0)
}

// P5.1: Get of a page that is not held is a miss, and holds it as the device shows it; of one that is held a hit.
func TestGet(t *testing.T) {
	c, d := made(t, 3)
	wantErr(t, "Write", d.Write(7, page(7)), api.OK) // it waits: the device shows it, though it is not stable
	wantGet(t, "a miss", c, 7, page(7))
	wantTold(t, "a miss", c, told{held: []int{7}, misses: 1})
	wantGet(t, "a hit", c, 7, page(7))
	wantTold(t, "a hit", c, told{held: []int{7}, hits: 1, misses: 1})
	wantGet(t, "a miss", c, 0, shown(0))
	wantTold(t, "a miss", c, told{held: []int{0, 7}, hits: 1, misses: 2})
	wantGet(t, "a hit", c, 7, page(7))
	wantTold(t, "a hit", c, told{held: []int{7, 0}, hits: 2, misses: 2})
	wantWaits(t, "Get", d, 1)
}

// P5.1: of a page that is held its bytes are told, whatever the device shows since then.
func TestGetOfWhatIsHeld(t *testing.T) {
	c, d := made(t, 3)
	wantGet(t, "read", c, 2, shown(2))
	wantPut(t, c, 3, page(3))
	for _, p := range []int{2, 3} {
		wantErr(t, "Write", d.Write(p, page(9)), api.OK)
	}
	wantGet(t, "held", c, 2, shown(2))
	wantGet(t, "held", c, 3, page(3))
	wantErr(t, "Forget", c.Forget(2), api.OK)
	wantErr(t, "Forget", c.Forget(3), api.OK)
	wantGet(t, "read again", c, 2, page(9))
	wantGet(t, "read again", c, 3, page(9))
}

// P5.1: Put of a page that is not held is a miss, of one that is held a hit; it is changed then, and nothing is written.
func TestPut(t *testing.T) {
	c, d := made(t, 3)
	wantPut(t, c, 5, page(1))
	wantTold(t, "a miss", c, told{held: []int{5}, changed: []int{5}, misses: 1})
	wantGet(t, "put", c, 5, page(1))
	wantPut(t, c, 5, page(2))
	wantTold(t, "a hit", c, told{held: []int{5}, changed: []int{5}, hits: 2, misses: 1})
	wantGet(t, "put again", c, 5, page(2))
	wantGet(t, "read", c, 6, shown(6))
	wantTold(t, "read", c, told{held: []int{6, 5}, changed: []int{5}, hits: 3, misses: 2})
	wantPut(t, c, 6, page(3))
	wantTold(t, "put behind read", c, told{held: []int{6, 5}, changed: []int{5, 6}, hits: 4, misses: 2})
	wantGet(t, "put behind read", c, 6, page(3))
	wantWaits(t, "Put", d, 0)
	wantShown(t, "Put", d, 5, shown(5))
	wantShown(t, "Put", d, 6, shown(6))
}

// P5.1: what is put is changed, also where the device shows these bytes: it is not read.
func TestPutOfWhatTheDeviceShows(t *testing.T) {
	c, d := made(t, 2)
	wantPut(t, c, 1, shown(1))
	wantGet(t, "read", c, 2, shown(2))
	wantPut(t, c, 2, shown(2))
	wantTold(t, "put", c, told{held: []int{2, 1}, changed: []int{1, 2}, hits: 1, misses: 2})
	wantErr(t, "Flush", c.Flush(), api.OK)
	wantWaits(t, "Flush", d, 2)
}

// P5.1: Put does not read the device: without power it holds what it is given.
func TestPutDoesNotRead(t *testing.T) {
	c, d := made(t, 2)
	wantGet(t, "read", c, 1, shown(1))
	cut(t, d, 0)
	wantPut(t, c, 4, page(4)) // there is room
	wantPut(t, c, 4, page(5)) // it is held
	wantPut(t, c, 6, page(6)) // page 1 goes, and is not written
	wantTold(t, "without power", c, told{held: []int{6, 4}, changed: []int{4, 6}, hits: 1, misses: 3})
	wantGet(t, "without power", c, 4, page(5))
	wantGet(t, "without power", c, 6, page(6))
}

// P5.1: bytes are held as they stand, each in its place.
func TestBytesAsTheyStand(t *testing.T) {
	c, d := made(t, 2)
	for p := range 12 {
		wantPut(t, c, p, run(api.PageSize, uint32(p)))
		wantGet(t, "held", c, p, run(api.PageSize, uint32(p)))
	}
	for p := range 10 {
		wantShown(t, "gone", d, p, run(api.PageSize, uint32(p)))
	}
	for p := range 12 {
		wantGet(t, "read again", c, p, run(api.PageSize, uint32(p)))
	}
}

// P5.1: hits and misses are counted, whether an error follows or not.
func TestCountedThoughAnErrorFollows(t *testing.T) {
	c, d := made(t, 2)
	for p := range 2 {
		wantPut(t, c, p, page(1))
		wantPin(t, c, p)
	}
	wantNoGet(t, "all pinned", c, 2, api.ErrFull)
	wantTold(t, "ErrFull of Get", c, told{held: []int{1, 0}, changed: []int{0, 1}, misses: 3})
	wantErr(t, "all pinned: Put", c.Put(3, page(3)), api.ErrFull)
	wantTold(t, "ErrFull of Put", c, told{held: []int{1, 0}, changed: []int{0, 1}, misses: 4})
	cut(t, d, 5)
	wantErr(t, "Unpin", c.Unpin(0), api.OK)
	wantNoGet(t, "no write", c, 2, api.ErrPower)
	wantErr(t, "no write: Put", c.Put(2, page(3)), api.ErrPower)
	wantTold(t, "ErrPower of a write", c, told{held: []int{1, 0}, changed: []int{0, 1}, misses: 6})
	wantErr(t, "Forget", c.Forget(0), api.OK)
	wantNoGet(t, "no read", c, 2, api.ErrPower)
	wantTold(t, "ErrPower of a read", c, told{held: []int{1}, changed: []int{1}, misses: 7})
	wantGet(t, "a hit", c, 1, page(1))
	wantTold(t, "a hit", c, told{held: []int{1}, changed: []int{1}, hits: 1, misses: 7})
}
