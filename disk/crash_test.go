package disk_test

import (
	"bytes"
	"fmt"
	"testing"

	"incipit/api"
)

// P3.2: the chapter's example.
func TestTheExample(t *testing.T) {
	d := device(t, 8)
	wantWrite(t, d, 0, page(1))
	wantErr(t, "Crash", d.Crash(1), api.OK)
	wantPage(t, "the example", d, 0, parts(1, 0, 0, 0))
}

// P3.2: a pick is taken modulo 5, and is of the first sectors.
func TestSoManySectorsComeAbout(t *testing.T) {
	want := [][]byte{parts(1, 1, 1, 1), parts(2, 1, 1, 1), parts(2, 2, 1, 1), parts(2, 2, 2, 1), parts(2, 2, 2, 2)}
	for pick := range 256 {
		d := device(t, 8)
		wantWrite(t, d, 3, page(1))
		wantErr(t, "Sync", d.Sync(), api.OK)
		wantWrite(t, d, 3, page(2))
		wantErr(t, "Crash", d.Crash(uint8(pick)), api.OK)
		what := fmt.Sprint("pick ", pick)
		wantPage(t, what, d, 3, want[pick%5])
		wantStable(t, what, d, 3, want[pick%5])
		wantTold(t, what, d, told{on: true, ops: 3})
	}
}

// P3.2: writes without a pick do not come about; picks without a write count for nothing.
func TestFewerAndMorePicks(t *testing.T) {
	for n := range 6 {
		d := device(t, 8)
		for p := range 3 {
			wantWrite(t, d, p, page(byte(p+1)))
		}
		wantErr(t, "Crash", d.Crash(bytes.Repeat([]byte{4}, n)...), api.OK)
		for p := range 8 {
			want := page(0)
			if p < min(n, 3) {
				want = page(byte(p + 1))
			}
			wantPage(t, fmt.Sprintf("picks %d", n), d, p, want)
		}
		wantTold(t, fmt.Sprintf("picks %d", n), d, told{on: true, ops: 3})
	}
	d := device(t, 8)
	wantErr(t, "Crash of nothing", d.Crash(4, 4), api.OK)
	wantAs(t, "Crash of nothing", d, newPlain(8))
}

// P3.2: writes of one page come about one after the other, from the oldest one on, each by its own pick.
func TestWritesOfOnePage(t *testing.T) {
	for _, c := range []struct {
		pick []uint8
		want []byte
	}{
		{nil, parts(0, 0, 0, 0)},
		{[]uint8{4}, parts(1, 1, 1, 1)},
		{[]uint8{4, 4}, parts(2, 2, 2, 2)},
		{[]uint8{4, 4, 4}, parts(3, 3, 3, 3)},
		{[]uint8{3, 2, 1}, parts(3, 2, 1, 0)},
		{[]uint8{1, 2, 3}, parts(3, 3, 3, 0)},
		{[]uint8{4, 0, 2}, parts(3, 3, 1, 1)},
		{[]uint8{0, 3, 0}, parts(2, 2, 2, 0)},
		{[]uint8{0, 0, 0}, parts(0, 0, 0, 0)},
		{[]uint8{9, 7, 255}, parts(2, 2, 1, 1)},
		{[]uint8{3, 2, 1, 4, 4}, parts(3, 2, 1, 0)},
	} {
		d := device(t, 8)
		for like := range 3 {
			wantWrite(t, d, 6, page(byte(like+1)))
		}
		wantErr(t, "Crash", d.Crash(c.pick...), api.OK)
		wantPage(t, fmt.Sprint("picks ", c.pick), d, 6, c.want)
	}
}

// P3.2: the picks go by the writes' order, not by their pages'.
func TestPicksGoByWrites(t *testing.T) {
	d := device(t, 8)
	for i, p := range []int{7, 0, 7, 3} {
		wantWrite(t, d, p, page(byte(i+1)))
	}
	wantErr(t, "Crash", d.Crash(4, 3, 2, 1), api.OK)
	wantPage(t, "page 7", d, 7, parts(3, 3, 1, 1))
	wantPage(t, "page 0", d, 0, parts(2, 2, 2, 0))
	wantPage(t, "page 3", d, 3, parts(4, 0, 0, 0))
}

// P3.2: bytes within a sector stand where they stood.
func TestSectorsKeepTheirPlace(t *testing.T) {
	was, is := run(api.PageSize, 1), run(api.PageSize, 2)
	for pick := range 5 {
		d := device(t, 8)
		wantWrite(t, d, 2, was)
		wantErr(t, "Sync", d.Sync(), api.OK)
		wantWrite(t, d, 2, is)
		wantErr(t, "Crash", d.Crash(uint8(pick)), api.OK)
		wantPage(t, fmt.Sprint("pick ", pick), d, 2, append(bytes.Clone(is[:64*pick]), was[64*pick:]...))
	}
}

// P3.2: behind a crash it is as new: power, nothing waits, not armed; whether the power was gone, and it was armed, or not.
func TestBehindACrash(t *testing.T) {
	for _, left := range []int{-1, 0, 1, 2, 5} {
		d, m := device(t, 8), newPlain(8)
		if left >= 0 {
			wantErr(t, "Arm", d.Arm(left), m.arm(left))
		}
		for i := range 3 {
			b := page(byte(i + 1))
			wantErr(t, "Write", d.Write(i, b), m.write(i, b))
		}
		if d.On() != (left < 0 || left >= 3) {
			t.Fatal("the power", left)
		}
		wantErr(t, "Crash", d.Crash(1, 2, 3), m.crash([]uint8{1, 2, 3}))
		wantAs(t, fmt.Sprint("left ", left), d, m)
		for i := range 10 {
			wantErr(t, "Write behind a crash", d.Write(i%8, page(7)), api.OK)
			wantErr(t, "Sync behind a crash", d.Sync(), api.OK)
		}
		wantPage(t, "behind a crash", d, 0, page(7))
	}
}

// P3.2: behind a crash what did not come about comes about no more, and a page that is written anew waits anew.
func TestACrashBehindACrash(t *testing.T) {
	d := device(t, 8)
	wantWrite(t, d, 1, page(1))
	wantErr(t, "Crash", d.Crash(2), api.OK)
	wantErr(t, "Sync", d.Sync(), api.OK)
	wantErr(t, "Crash", d.Crash(4, 4, 4), api.OK)
	wantPage(t, "nothing waited", d, 1, parts(1, 1, 0, 0))
	wantWrite(t, d, 1, page(2))
	wantErr(t, "Crash", d.Crash(1), api.OK)
	wantPage(t, "written anew", d, 1, parts(2, 1, 0, 0))
	wantTold(t, "written anew", d, told{on: true, ops: 3})
}

// P3.2, R3: the picks are not written to.
func TestPicksStay(t *testing.T) {
	d := device(t, 8)
	wantWrite(t, d, 1, page(1))
	pick := []uint8{9, 255}
	wantErr(t, "Crash", d.Crash(pick...), api.OK)
	if pick[0] != 9 || pick[1] != 255 {
		t.Fatal(pick)
	}
}

// P3.2: Load is of PageSize bytes for each page, and what is refused changes nothing.
func TestLoadOfOtherThanAnImage(t *testing.T) {
	d, m := device(t, 9), newPlain(9)
	wantErr(t, "Arm", d.Arm(1), m.arm(1))
	wantErr(t, "Write", d.Write(1, page(1)), m.write(1, page(1)))
	for _, n := range []int{0, 1, 256, 8 * 256, 9*256 - 1, 9*256 + 1, 10 * 256, 2048 * 256} {
		wantErr(t, fmt.Sprint("Load of bytes ", n), d.Load(bytes.Repeat([]byte{7}, n)), api.ErrArg)
	}
	wantErr(t, "Load of nil", d.Load(nil), api.ErrArg)
	wantAs(t, "behind what was refused", d, m)
	wantErr(t, "Sync", d.Sync(), api.ErrPower)
}

// P3.2: what was loaded is stable, page by page; nothing waits, and it is not armed.
func TestLoad(t *testing.T) {
	image := run(8*256, 3)
	for _, left := range []int{-1, 0, 1, 2, 5} {
		d, m := device(t, 8), newPlain(8)
		if left >= 0 {
			wantErr(t, "Arm", d.Arm(left), m.arm(left))
		}
		for i := range 3 {
			wantErr(t, "Write", d.Write(i, page(1)), m.write(i, page(1)))
		}
		wantErr(t, "Load", d.Load(image), m.load(image))
		wantAs(t, fmt.Sprint("left ", left), d, m)
		for range 10 {
			wantErr(t, "Sync behind a Load", d.Sync(), api.OK)
		}
		wantErr(t, "Crash behind a Load", d.Crash(4, 4, 4), api.OK)
		if !bytes.Equal(d.Image(), image) {
			t.Fatal("what waited ahead of a Load came about")
		}
	}
}

// P3.2, P3.3: an image that was told is loaded again, into its own device and another one.
func TestImageAndLoad(t *testing.T) {
	d := device(t, 30)
	image := run(30*256, 4)
	wantErr(t, "Load", d.Load(image), api.OK)
	other := device(t, 30)
	wantErr(t, "Load", other.Load(d.Image()), api.OK)
	if !bytes.Equal(d.Image(), image) || !bytes.Equal(other.Image(), image) {
		t.Fatal("the image is another one")
	}
	for p := range 30 {
		wantPage(t, "loaded", other, p, image[p*256:(p+1)*256])
	}
}
