package disk_test

import (
	"fmt"
	"math"
	"testing"

	"incipit/api"
	"incipit/disk"
)

// dark is a device whose power went at a write, with the page 1 stable as ones, and two writes that wait: of twos, and of threes.
func dark(t *testing.T) *disk.Disk {
	t.Helper()
	d := device(t, 8)
	wantWrite(t, d, 1, page(1))
	wantErr(t, "Sync", d.Sync(), api.OK)
	wantErr(t, "Arm", d.Arm(1), api.OK)
	wantErr(t, "Write", d.Write(1, page(2)), api.OK)
	wantErr(t, "Write", d.Write(2, page(3)), api.ErrPower)
	return d
}

// P3.1: how many may be left.
func TestArmOfSoMany(t *testing.T) {
	d := device(t, 8)
	for _, n := range []int{math.MinInt, -2, -1} {
		wantErr(t, fmt.Sprint("Arm ", n), d.Arm(n), api.ErrArg)
	}
	for range 5 {
		wantErr(t, "Sync of what is not armed", d.Sync(), api.OK)
	}
	wantErr(t, "Arm", d.Arm(math.MaxInt), api.OK)
	wantErr(t, "Sync", d.Sync(), api.OK)
	wantErr(t, "Arm", d.Arm(1), api.OK)
	wantErr(t, "Arm -1 of what is armed", d.Arm(-1), api.ErrArg)
	wantErr(t, "Sync", d.Sync(), api.OK)
	wantErr(t, "Sync", d.Sync(), api.ErrPower)
}

// P3.1: n writes and syncs, in any order, are left; the power goes at the next one.
func TestThePowerGoesBehindSoMany(t *testing.T) {
	for n := range 6 {
		for syncs := range 1 << (n + 1) {
			d, m := device(t, 8), newPlain(8)
			wantErr(t, "Arm", d.Arm(n), m.arm(n))
			for i := range n + 1 {
				want := api.OK
				if i == n {
					want = api.ErrPower
				}
				what := fmt.Sprintf("%d left, syncs %b, step %d", n, syncs, i)
				if syncs>>i&1 == 1 {
					wantErr(t, what, d.Sync(), want)
					m.sync()
				} else {
					b := run(api.PageSize, uint32(i))
					wantErr(t, what, d.Write(i%3, b), want)
					m.write(i%3, b)
				}
				wantAs(t, what, d, m)
			}
		}
	}
}

// P3.1: a write at which nothing is left waits all the same; it is not counted.
func TestThePowerGoesAtAWrite(t *testing.T) {
	d := dark(t)
	wantTold(t, "gone", d, told{waits: 2, ops: 3})
	wantStable(t, "gone", d, 1, page(1))
	wantStable(t, "gone", d, 2, page(0))
	wantErr(t, "Crash", d.Crash(4, 4), api.OK)
	wantPage(t, "behind a crash", d, 1, page(2))
	wantPage(t, "behind a crash", d, 2, page(3))
}

// P3.1: a sync at which nothing is left does nothing; it is not counted.
func TestThePowerGoesAtASync(t *testing.T) {
	d := device(t, 8)
	wantWrite(t, d, 5, page(1))
	wantErr(t, "Arm", d.Arm(0), api.OK)
	if !d.On() {
		t.Fatal("Arm takes the power")
	}
	wantPage(t, "armed", d, 5, page(1))
	wantErr(t, "Sync", d.Sync(), api.ErrPower)
	wantTold(t, "gone", d, told{waits: 1, ops: 1})
	wantStable(t, "gone", d, 5, page(0))
	wantErr(t, "Crash", d.Crash(3), api.OK)
	wantPage(t, "behind a crash", d, 5, parts(1, 1, 1, 0))
}

// P3.1, R2: without power each call says so, but for what is refused for itself; none changes anything.
func TestCallsWithoutPower(t *testing.T) {
	d := dark(t)
	for range 3 {
		wantErr(t, "Write", d.Write(1, page(9)), api.ErrPower)
		wantErr(t, "Sync", d.Sync(), api.ErrPower)
		wantErr(t, "Arm", d.Arm(3), api.ErrPower)
		wantErr(t, "Arm", d.Arm(0), api.ErrPower)
		wantErr(t, "Calm", d.Calm(), api.ErrPower)
		for p := range 8 {
			wantNoRead(t, "gone", d, p, api.ErrPower)
		}
		wantNoRead(t, "page -1", d, -1, api.ErrArg)
		wantNoRead(t, "page 8", d, 8, api.ErrArg)
		wantErr(t, "Write of page -1", d.Write(-1, page(9)), api.ErrArg)
		wantErr(t, "Write of page 8", d.Write(8, page(9)), api.ErrArg)
		wantErr(t, "Write of nil", d.Write(1, nil), api.ErrArg)
		wantErr(t, "Write of too much", d.Write(1, make([]byte, 257)), api.ErrArg)
		wantErr(t, "Arm -1", d.Arm(-1), api.ErrArg)
		wantErr(t, "Load", d.Load(make([]byte, 8*256-1)), api.ErrArg)
		wantTold(t, "gone", d, told{waits: 2, ops: 3})
		wantStable(t, "gone", d, 1, page(1))
		wantStable(t, "gone", d, 2, page(0))
		if d.Pages() != 8 {
			t.Fatal("Pages", d.Pages())
		}
	}
}

// P3.1: what is calm is not armed, and may be armed again.
func TestCalm(t *testing.T) {
	d := device(t, 8)
	wantErr(t, "Calm of what is not armed", d.Calm(), api.OK)
	wantErr(t, "Arm", d.Arm(0), api.OK)
	wantErr(t, "Calm", d.Calm(), api.OK)
	for range 5 {
		wantWrite(t, d, 0, page(1))
		wantErr(t, "Sync", d.Sync(), api.OK)
	}
	wantErr(t, "Arm", d.Arm(1), api.OK)
	wantErr(t, "Sync", d.Sync(), api.OK)
	wantErr(t, "Calm", d.Calm(), api.OK)
	wantErr(t, "Sync", d.Sync(), api.OK)
	wantTold(t, "calm", d, told{on: true, ops: 12})
	wantErr(t, "Arm", d.Arm(0), api.OK)
	wantErr(t, "Sync", d.Sync(), api.ErrPower)
}

// P3.1: what is left is what Arm said last.
func TestArmAgain(t *testing.T) {
	d := device(t, 8)
	wantErr(t, "Arm", d.Arm(0), api.OK)
	wantErr(t, "Arm", d.Arm(2), api.OK)
	wantErr(t, "Sync", d.Sync(), api.OK)
	wantErr(t, "Arm", d.Arm(2), api.OK)
	wantErr(t, "Sync", d.Sync(), api.OK)
	wantErr(t, "Sync", d.Sync(), api.OK)
	wantErr(t, "Sync", d.Sync(), api.ErrPower)
}

// P3.3, R2, R5: a device that no call made answers ErrMade first, and else zero values.
func TestADeviceThatNoCallMade(t *testing.T) {
	for what, d := range map[string]*disk.Disk{"nil": nil, "zero": {}} {
		for _, p := range []int{-1, 0, 8} {
			wantNoRead(t, what, d, p, api.ErrMade)
			wantErr(t, what+": Write", d.Write(p, page(1)), api.ErrMade)
			wantErr(t, what+": Write of nil", d.Write(p, nil), api.ErrMade)
		}
		wantErr(t, what+": Sync", d.Sync(), api.ErrMade)
		wantErr(t, what+": Arm", d.Arm(1), api.ErrMade)
		wantErr(t, what+": Arm -1", d.Arm(-1), api.ErrMade)
		wantErr(t, what+": Calm", d.Calm(), api.ErrMade)
		wantErr(t, what+": Crash", d.Crash(), api.ErrMade)
		wantErr(t, what+": Crash", d.Crash(1, 2, 3), api.ErrMade)
		wantErr(t, what+": Load of nil", d.Load(nil), api.ErrMade)
		wantErr(t, what+": Load", d.Load(make([]byte, 8*256)), api.ErrMade)
		wantTold(t, what, d, told{})
		if d.Pages() != 0 || d.Image() != nil || d.Clone() != nil {
			t.Error(what, d.Pages(), d.Image(), d.Clone())
		}
	}
}
