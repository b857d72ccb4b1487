package disk_test

import (
	"bytes"
	"fmt"
	"math"
	"testing"

	"incipit/api"
	"incipit/disk"
)

// P3.1: how many pages may be, and how many not.
func TestNewOfSoManyPages(t *testing.T) {
	for _, pages := range []int{math.MinInt, -api.MinPages, -1, 0, 1, 7, api.MinPages - 1, api.MaxPages + 1, 1 << 20, math.MaxInt} {
		if d, e := disk.New(pages); e != api.ErrArg || d != nil {
			t.Error("New", pages, d, e)
		}
	}
	for _, pages := range []int{api.MinPages, api.MinPages + 1, 64, api.MaxPages - 1, api.MaxPages} {
		d := device(t, pages)
		if d.Pages() != pages || len(d.Image()) != pages*api.PageSize {
			t.Error("New", pages, d.Pages(), len(d.Image()))
		}
		wantPage(t, "the last page", d, pages-1, page(0))
		wantNoRead(t, "behind the last page", d, pages, api.ErrArg)
	}
}

// P3.1: a new device is noughts, with power, and not armed.
func TestANewDevice(t *testing.T) {
	d := device(t, api.MinPages)
	wantAs(t, "new", d, newPlain(api.MinPages))
	for n := range 100 {
		wantWrite(t, d, n%api.MinPages, page(1))
		wantErr(t, "Sync", d.Sync(), api.OK)
	}
	wantTold(t, "behind many writes and syncs", d, told{on: true, ops: 200})
}

// P3.1: which pages there are.
func TestPagesThatThereAreNot(t *testing.T) {
	d := device(t, 9)
	for _, p := range []int{math.MinInt, -9, -1, 9, 10, math.MaxInt} {
		wantNoRead(t, fmt.Sprint("page ", p), d, p, api.ErrArg)
		wantErr(t, fmt.Sprint("Write of page ", p), d.Write(p, page(1)), api.ErrArg)
	}
	wantAs(t, "behind what was refused", d, newPlain(9))
	for _, p := range []int{0, 8} {
		wantWrite(t, d, p, page(byte(p+1)))
		wantPage(t, "an outer page", d, p, page(byte(p+1)))
	}
}

// P3.1: a write is of PageSize bytes, and what is refused neither waits nor counts.
func TestWriteOfOtherThanAPage(t *testing.T) {
	d := device(t, 8)
	wantErr(t, "Arm", d.Arm(1), api.OK)
	wantErr(t, "Write of nil", d.Write(0, nil), api.ErrArg)
	for _, n := range []int{0, 1, 64, 255, 257, 320, 512, 1 << 16} {
		wantErr(t, fmt.Sprint("Write of bytes ", n), d.Write(0, make([]byte, n)), api.ErrArg)
	}
	wantErr(t, "Write of neither", d.Write(8, nil), api.ErrArg)
	wantTold(t, "behind what was refused", d, told{on: true})
	wantErr(t, "Write", d.Write(0, page(1)), api.OK)
	wantErr(t, "Write", d.Write(0, page(2)), api.ErrPower)
}

// P3.1, P3.3: at each step, what pages show, what waits, what is stable, and what counts.
func TestWritesWaitTillASync(t *testing.T) {
	d := device(t, 8)
	wantWrite(t, d, 3, page(1))
	wantPage(t, "written", d, 3, page(1))
	wantStable(t, "written", d, 3, page(0))
	wantTold(t, "written", d, told{on: true, waits: 1, ops: 1})
	wantWrite(t, d, 3, page(2))
	wantWrite(t, d, 7, page(3))
	wantWrite(t, d, 3, page(4))
	wantWrite(t, d, 0, page(5))
	wantTold(t, "written again", d, told{on: true, waits: 5, ops: 5})
	wantPage(t, "written thrice", d, 3, page(4))
	wantPage(t, "written once", d, 7, page(3))
	wantPage(t, "not written", d, 2, page(0))
	if !bytes.Equal(d.Image(), make([]byte, 8*256)) {
		t.Fatal("what waits is stable")
	}
	wantErr(t, "Sync", d.Sync(), api.OK)
	wantTold(t, "synced", d, told{on: true, ops: 6})
	for p, c := range []byte{5, 0, 0, 4, 0, 0, 0, 3} {
		wantPage(t, "synced", d, p, page(c))
		wantStable(t, "synced", d, p, page(c))
	}
}

// P3.1: a write behind a sync waits anew, and one of the same bytes waits too.
func TestWritesBehindASync(t *testing.T) {
	d := device(t, 8)
	wantWrite(t, d, 1, page(1))
	wantErr(t, "Sync", d.Sync(), api.OK)
	wantWrite(t, d, 1, page(1))
	wantTold(t, "the same again", d, told{on: true, waits: 1, ops: 3})
	wantWrite(t, d, 1, page(2))
	wantPage(t, "written behind a sync", d, 1, page(2))
	wantStable(t, "written behind a sync", d, 1, page(1))
	wantErr(t, "Sync", d.Sync(), api.OK)
	wantErr(t, "Sync of nothing", d.Sync(), api.OK)
	wantTold(t, "synced twice", d, told{on: true, ops: 6})
	wantStable(t, "synced twice", d, 1, page(2))
	wantPage(t, "synced twice", d, 1, page(2))
}

// P3.1: which bytes stand where, when each page has its own.
func TestEachPageHasItsBytes(t *testing.T) {
	d := device(t, 40)
	var all []byte
	for p := range 40 {
		b := run(api.PageSize, uint32(p+1))
		wantWrite(t, d, p, b)
		all = append(all, b...)
	}
	for p := range 40 {
		wantPage(t, "waits", d, p, all[p*256:(p+1)*256])
	}
	wantErr(t, "Sync", d.Sync(), api.OK)
	if !bytes.Equal(d.Image(), all) {
		t.Fatal("Image is not page by page")
	}
}

// P3.3: reading, and being asked, changes nothing and counts for nothing.
func TestAskingChangesNothing(t *testing.T) {
	d, m := device(t, 8), newPlain(8)
	wantErr(t, "Arm", d.Arm(2), m.arm(2))
	wantErr(t, "Write", d.Write(2, page(1)), m.write(2, page(1)))
	for range 5 {
		wantAs(t, "asked", d, m)
		d.Clone()
	}
	wantErr(t, "Write", d.Write(2, page(2)), api.OK)
	wantErr(t, "Write", d.Write(2, page(3)), api.ErrPower)
}

// R3: bytes that were handed in are not written to, and not kept.
func TestBytesThatAreHandedIn(t *testing.T) {
	d := device(t, 8)
	b := run(api.PageSize, 1)
	wantWrite(t, d, 4, b)
	wantErr(t, "Sync", d.Sync(), api.OK)
	wantWrite(t, d, 5, b)
	image := run(8*256, 2)
	other := device(t, 8)
	wantErr(t, "Load", other.Load(image), api.OK)
	if !bytes.Equal(b, run(api.PageSize, 1)) || !bytes.Equal(image, run(8*256, 2)) {
		t.Fatal("what was handed in was written to")
	}
	clear(b)
	clear(image)
	wantPage(t, "synced", d, 4, run(api.PageSize, 1))
	wantPage(t, "waits", d, 5, run(api.PageSize, 1))
	if !bytes.Equal(other.Image(), run(8*256, 2)) {
		t.Fatal("the device changed with what was handed to Load")
	}
	wantErr(t, "Crash", d.Crash(4), api.OK)
	wantPage(t, "behind a crash", d, 5, run(api.PageSize, 1))
}

// R3: bytes that were answered are nobody's else.
func TestBytesThatAreAnswered(t *testing.T) {
	d := device(t, 8)
	wantWrite(t, d, 4, page(1))
	wantErr(t, "Sync", d.Sync(), api.OK)
	wantWrite(t, d, 5, page(2))
	for _, p := range []int{4, 5, 6} {
		before, _ := d.Read(p)
		again, _ := d.Read(p)
		kept := bytes.Clone(before)
		for i := range before {
			before[i] ^= 255
		}
		_ = append(before, page(9)...)
		wantPage(t, "behind a change", d, p, kept)
		if !bytes.Equal(again, kept) {
			t.Fatal("two answers share their bytes")
		}
	}
	image := d.Image()
	for i := range image {
		image[i] ^= 255
	}
	wantStable(t, "behind a change", d, 4, page(1))
	wantPage(t, "behind a change", d, 4, page(1))
}

// R3: what was answered stays as it was, whatever is done to the device.
func TestAnswersStay(t *testing.T) {
	d := device(t, 8)
	wantWrite(t, d, 4, page(1))
	waiting, _ := d.Read(4)
	wantErr(t, "Sync", d.Sync(), api.OK)
	stable, _ := d.Read(4)
	image := d.Image()
	wantWrite(t, d, 4, page(2))
	wantErr(t, "Crash", d.Crash(4), api.OK)
	wantErr(t, "Load", d.Load(bytes.Repeat([]byte{3}, 8*256)), api.OK)
	if !bytes.Equal(waiting, page(1)) || !bytes.Equal(stable, page(1)) || image[4*256] != 1 {
		t.Fatal("an answer changed")
	}
}
