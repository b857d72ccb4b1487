package disk_test

import (
	"fmt"
	"testing"

	"incipit/api"
	"incipit/disk"
)

// armedDevice has two pages stable, three writes that wait, and left more to go; without power, if left is below 0.
func armedDevice(t *testing.T, left int) (*disk.Disk, *plain) {
	t.Helper()
	d, m := device(t, 8), newPlain(8)
	for _, p := range []int{1, 2} {
		wantErr(t, "Write", d.Write(p, page(1)), m.write(p, page(1)))
	}
	wantErr(t, "Sync", d.Sync(), m.sync())
	n := left + 3
	wantErr(t, "Arm", d.Arm(n), m.arm(n))
	for i, p := range []int{2, 3, 2} {
		b := page(byte(i + 5))
		wantErr(t, "Write", d.Write(p, b), m.write(p, b))
	}
	return d, m
}

// P3.3: a clone has the same: what is stable, what waits, the power, what is left, what is counted.
func TestACloneHasTheSame(t *testing.T) {
	for _, left := range []int{-1, 0, 1, 2} {
		d, m := armedDevice(t, left)
		wantAs(t, fmt.Sprint("a clone, left ", left), d.Clone(), m)
		c, n := d.Clone(), m.clone()
		wantErr(t, "Crash", c.Crash(4, 3, 2), n.crash([]uint8{4, 3, 2}))
		wantAs(t, "a clone behind a crash", c, n)
		if left < 0 {
			continue
		}
		c, n = d.Clone(), m.clone()
		for i := range left + 1 {
			wantErr(t, "Sync", c.Sync(), n.sync())
			wantAs(t, fmt.Sprint("a clone behind syncs ", i+1), c, n)
		}
		if c.On() {
			t.Fatal("a clone is not armed")
		}
	}
	c := device(t, 8).Clone()
	wantAs(t, "a clone of what is new", c, newPlain(8))
	for range 5 {
		wantErr(t, "Sync of what is not armed", c.Sync(), api.OK)
	}
}

// changers are what may be done to a device, each with the chapter's words of it.
func changers() []func(d *disk.Disk, m *plain) (api.Errno, api.Errno) {
	type answers = func(d *disk.Disk, m *plain) (api.Errno, api.Errno)
	image := run(8*256, 5)
	return []answers{
		func(d *disk.Disk, m *plain) (api.Errno, api.Errno) { return d.Write(2, page(9)), m.write(2, page(9)) },
		func(d *disk.Disk, m *plain) (api.Errno, api.Errno) { return d.Write(7, page(8)), m.write(7, page(8)) },
		func(d *disk.Disk, m *plain) (api.Errno, api.Errno) { return d.Sync(), m.sync() },
		func(d *disk.Disk, m *plain) (api.Errno, api.Errno) { return d.Arm(0), m.arm(0) },
		func(d *disk.Disk, m *plain) (api.Errno, api.Errno) { return d.Calm(), m.calm() },
		func(d *disk.Disk, m *plain) (api.Errno, api.Errno) {
			return d.Crash(1, 2, 3), m.crash([]uint8{1, 2, 3})
		},
		func(d *disk.Disk, m *plain) (api.Errno, api.Errno) { return d.Load(image), m.load(image) },
	}
}

// P3.3, R3: neither sees what is done to the other; what is done to the one, then to the other, comes of each alone.
func TestACloneGoesItsOwnWay(t *testing.T) {
	for _, left := range []int{-1, 0, 1, 9} {
		for i, one := range changers() {
			for j, two := range changers() {
				d, m := armedDevice(t, left)
				c, n := d.Clone(), m.clone()
				what := fmt.Sprintf("left %d, call %d, then %d", left, i, j)
				got, want := one(c, n)
				wantErr(t, what, got, want)
				wantAs(t, what+": the device", d, m)
				got, want = two(d, m)
				wantErr(t, what, got, want)
				wantAs(t, what+": the clone", c, n)
				wantAs(t, what+": the device", d, m)
				wantErr(t, "Crash", c.Crash(4, 1, 4, 2), n.crash([]uint8{4, 1, 4, 2}))
				wantErr(t, "Crash", d.Crash(2, 4, 1, 4), m.crash([]uint8{2, 4, 1, 4}))
				wantAs(t, what+": the clone behind a crash", c, n)
				wantAs(t, what+": the device behind a crash", d, m)
			}
		}
	}
}

// P3.3: clones of one device, and a clone's clone, write behind what waits without writing over each other.
func TestClonesOfOneDevice(t *testing.T) {
	for waits := range 9 {
		d := device(t, 8)
		for range waits {
			wantWrite(t, d, 1, page(1))
		}
		a, b := d.Clone(), d.Clone()
		c := a.Clone()
		for i, each := range []*disk.Disk{a, b, c, d} {
			wantWrite(t, each, 2, page(byte(i+2)))
		}
		for i, each := range []*disk.Disk{a, b, c, d} {
			wantPage(t, fmt.Sprint("waits ", waits), each, 2, page(byte(i+2)))
			wantErr(t, "Sync", each.Sync(), api.OK)
			wantPage(t, fmt.Sprint("waits ", waits), each, 2, page(byte(i+2)))
			wantTold(t, fmt.Sprint("waits ", waits), each, told{on: true, ops: waits + 2})
		}
	}
}
