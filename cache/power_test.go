package cache_test

import (
	"testing"

	"incipit/api"
	"incipit/cache"
	"incipit/disk"
)

// dark is a cache of three pages without power: page 0 was read first, then 1 and 2 were put; page 1 is pinned.
func dark(t *testing.T) (*cache.Cache, *disk.Disk) {
	t.Helper()
	c, d := made(t, 3)
	useAll(t, c, []int{0, 1, 2}, 6)
	wantPin(t, c, 1)
	cut(t, d, 11)
	return c, d
}

// P5.1: what is held is told, and put, without the device.
func TestHeldPagesWithoutPower(t *testing.T) {
	c, d := dark(t)
	wantGet(t, "held", c, 0, shown(0))
	wantGet(t, "held", c, 1, page(1))
	wantPut(t, c, 0, page(7))
	wantPut(t, c, 2, page(8))
	wantGet(t, "put", c, 0, page(7))
	wantTold(t, "without power", c, told{held: []int{0, 2, 1}, changed: []int{0, 1, 2}, hits: 5, misses: 3})
	wantWaits(t, "without power", d, 1) // the write that took the power away
}

// P5.1: a page that is not held can't be read; there was room, and it is not held then.
func TestGetWithRoomWithoutPower(t *testing.T) {
	c, _ := dark(t)
	wantErr(t, "Forget", c.Forget(0), api.OK)
	for n := range 3 {
		wantNoGet(t, "with room", c, 5, api.ErrPower)
		wantTold(t, "with room", c, told{held: []int{2, 1}, changed: []int{1, 2}, misses: 4 + n})
		wantPins(t, "with room", c, 1, 1)
	}
}

// P5.1: room is made ahead of the read: what need not be written has gone, though the read failed.
func TestGetThatMakesRoomWithoutPower(t *testing.T) {
	c, d := dark(t)
	wantNoGet(t, "page 0 goes", c, 5, api.ErrPower)
	wantTold(t, "page 0 goes", c, told{held: []int{2, 1}, changed: []int{1, 2}, misses: 4})
	wantPins(t, "page 0 goes", c, 1, 1)
	wantPut(t, c, 6, page(6)) // into the room that was made
	wantTold(t, "there is room", c, told{held: []int{6, 2, 1}, changed: []int{1, 2, 6}, misses: 5})
	wantNoGet(t, "page 2 can't be written", c, 5, api.ErrPower)
	wantErr(t, "page 2 can't be written: Put", c.Put(7, page(7)), api.ErrPower)
	wantTold(t, "nothing goes", c, told{held: []int{6, 2, 1}, changed: []int{1, 2, 6}, misses: 7})
	wantWaits(t, "nothing goes", d, 1)
	wantErr(t, "Crash", d.Crash(), api.OK)
	wantGet(t, "with power", c, 5, shown(5)) // page 2 goes
	wantShown(t, "with power", d, 2, page(2))
	wantTold(t, "with power", c, told{held: []int{5, 6, 1}, changed: []int{1, 6}, misses: 8})
}

// P5.1: Put asks the device for nothing but to write what goes.
func TestPutWithoutPower(t *testing.T) {
	c, _ := dark(t)
	wantPut(t, c, 5, page(5)) // page 0 goes, which need not be written
	wantTold(t, "page 0 goes", c, told{held: []int{5, 2, 1}, changed: []int{1, 2, 5}, misses: 4})
	wantErr(t, "page 2 can't be written", c.Put(6, page(6)), api.ErrPower)
	wantTold(t, "nothing goes", c, told{held: []int{5, 2, 1}, changed: []int{1, 2, 5}, misses: 5})
	wantPut(t, c, 5, page(9))
	wantGet(t, "held", c, 5, page(9))
}

// P5.1: where all are pinned there is no room, and the device is not asked: ErrFull stands ahead of ErrPower.
func TestAllPinnedWithoutPower(t *testing.T) {
	c, _ := dark(t)
	wantPin(t, c, 0)
	wantPin(t, c, 2)
	wantNoGet(t, "all pinned", c, 5, api.ErrFull)
	wantErr(t, "all pinned: Put", c.Put(5, page(5)), api.ErrFull)
	wantTold(t, "all pinned", c, told{held: []int{2, 1, 0}, changed: []int{1, 2}, misses: 5})
	for p := range 3 {
		wantPins(t, "all pinned", c, p, 1)
	}
}

// P5.2: Flush asks the device only where something is changed; at its error all that is changed stays so.
func TestFlushWithoutPower(t *testing.T) {
	c, d := dark(t)
	wantErr(t, "Flush", c.Flush(), api.ErrPower)
	wantTold(t, "Flush", c, told{held: []int{2, 1, 0}, changed: []int{1, 2}, misses: 3})
	wantPins(t, "Flush", c, 1, 1)
	wantWaits(t, "Flush", d, 1)
	wantErr(t, "Unpin", c.Unpin(1), api.OK)
	wantErr(t, "Forget", c.Forget(1), api.OK)
	wantErr(t, "Forget", c.Forget(2), api.OK)
	wantErr(t, "Flush of nothing", c.Flush(), api.OK)
	c.Drop()
	wantErr(t, "Flush behind Drop", c.Flush(), api.OK)
}

// P5.2: Pin, Unpin, Forget, Drop and the calls that tell ask the device for nothing.
func TestKeepingWithoutPower(t *testing.T) {
	c, d := dark(t)
	wantPin(t, c, 0)
	wantErr(t, "Unpin", c.Unpin(0), api.OK)
	wantErr(t, "Forget of a changed one", c.Forget(2), api.OK)
	wantErr(t, "Forget of a pinned one", c.Forget(1), api.ErrBusy)
	wantErr(t, "Pin of none", c.Pin(5), api.ErrNone)
	wantTold(t, "without power", c, told{held: []int{1, 0}, changed: []int{1}, misses: 3})
	c.Drop()
	wantTold(t, "Drop", c, told{misses: 3})
	wantNoGet(t, "behind Drop", c, 1, api.ErrPower)
	wantErr(t, "Crash", d.Crash(), api.OK)
	wantGet(t, "with power", c, 1, shown(1))
}

// P5.1: reads do not use up what is left of an armed device's writes.
func TestReadsOfAnArmedDevice(t *testing.T) {
	c, d := made(t, 2)
	wantErr(t, "Arm", d.Arm(0), api.OK)
	for p := range 12 {
		wantGet(t, "armed", c, p, shown(p))
	}
	wantPut(t, c, 11, page(1))
	if !d.On() {
		t.Fatal("the power went at a read")
	}
	wantErr(t, "Flush", c.Flush(), api.ErrPower)
	wantTold(t, "Flush", c, told{held: []int{11, 10}, changed: []int{11}, hits: 1, misses: 12})
}
