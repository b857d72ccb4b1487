package pager_test

import (
	"bytes"
	"fmt"
	"slices"
	"testing"

	"incipit/api"
	"incipit/disk"
	"incipit/pager"
)

// formatSizes are the least and the greatest numbers of pages, and those at which a second map is needed.
var formatSizes = []int{api.MinPages, 9, 100, 1023, 1024, 1025, api.MaxPages - 1, api.MaxPages}

// rubbish is an image of so many pages that no call left.
func rubbish(pages int) []byte {
	r := draws(pages)
	return r.bytes(pages * 256)
}

// wantImage asks, page by page, what is stable.
func wantImage(t *testing.T, what string, d *disk.Disk, want []byte) {
	t.Helper()
	got := d.Image()
	for p := range d.Pages() {
		if !bytes.Equal(got[p*256:][:256], want[p*256:][:256]) {
			t.Fatalf("%s: page %d is %v, not %v", what, p, got[p*256:][:256], want[p*256:][:256])
		}
	}
}

// formattedImage is what Format makes of an image.
func formattedImage(image []byte) []byte {
	pages := len(image) / 256
	m := plainFormat(pages)
	image = bytes.Clone(image)
	clear(image[:256])
	copy(image[256:], plainHead(1, pages, m.maps, nil))
	for _, p := range m.maps {
		copy(image[p*256:], m.bears[p])
	}
	return image
}

// noPager asks that Format, or Open, answers that error, and no pager, and has done nothing to the device.
func noPager(t *testing.T, what string, begin func(*disk.Disk, int) (*pager.Pager, api.Errno), d *disk.Disk, size int, want api.Errno) {
	t.Helper()
	image, waits, ops, on := d.Image(), d.Waits(), d.Ops(), d.On()
	p, e := begin(d, size)
	wantErr(t, what, e, want)
	if p != nil {
		t.Fatalf("%s: a pager stands beside an error", what)
	}
	if !bytes.Equal(d.Image(), image) || d.Waits() != waits || d.Ops() != ops || d.On() != on {
		t.Fatalf("%s: the device was changed", what)
	}
}

// beginnings are both calls that make a pager.
var beginnings = []struct {
	name  string
	begin func(*disk.Disk, int) (*pager.Pager, api.Errno)
}{{"Format", pager.Format}, {"Open", pager.Open}}

// dark is a device that Format laid, without power; one write waits.
func dark(t *testing.T) *disk.Disk {
	t.Helper()
	b := formatted(t, 12, 4)
	b.cut()
	return b.d
}

// P9.1: Format and Open: ErrMade, ErrArg and ErrPower, the first of those that apply; nothing is done then.
func TestNoPager(t *testing.T) {
	sizes := append([]int{2, 3, 64}, noSizes...)
	for _, c := range beginnings {
		for _, d := range []*disk.Disk{nil, {}, new(disk.Disk)} {
			for _, size := range sizes {
				noPager(t, fmt.Sprintf("%s(not made, %d)", c.name, size), c.begin, d, size, api.ErrMade)
			}
		}
		for _, size := range noSizes {
			noPager(t, fmt.Sprintf("%s(%d) of noughts", c.name, size), c.begin, device(t, 9), size, api.ErrArg)
			noPager(t, fmt.Sprintf("%s(%d) of what was formatted", c.name, size), c.begin, formatted(t, 9, 2).d, size, api.ErrArg)
			noPager(t, fmt.Sprintf("%s(%d) without power", c.name, size), c.begin, dark(t), size, api.ErrArg)
		}
		for _, size := range []int{2, 3, 63, 64} {
			noPager(t, fmt.Sprintf("%s(%d) without power", c.name, size), c.begin, dark(t), size, api.ErrPower)
		}
	}
}

// P9.1: Format leaves noughts on page 0, the head of epoch 1 on page 1, the free map behind them, and all other pages as they were; all of it is stable.
func TestFormatOnTheDevice(t *testing.T) {
	for _, pages := range formatSizes {
		for _, size := range []int{2, 3, 64} {
			for what, image := range map[string][]byte{"noughts": make([]byte, pages*256), "rubbish": rubbish(pages)} {
				what = fmt.Sprintf("Format of %d pages of %s, cache %d", pages, what, size)
				d := loaded(t, image)
				p, e := pager.Format(d, size)
				wantErr(t, what, e, api.OK)
				b := &both{t: t, what: what, d: d, p: p, m: plainFormat(pages)}
				b.told("Format")
				wantImage(t, what, d, formattedImage(image))
				if d.Waits() != 0 || d.Ops() != 5+len(b.m.maps) {
					t.Fatalf("%s: %d writes wait, %d writes and syncs", what, d.Waits(), d.Ops())
				}
				wantErr(t, "Crash", d.Crash(1, 2, 3, 4), api.OK)
				wantImage(t, what+", behind a crash", d, formattedImage(image))
				opened(t, d, size).told("a crash")
			}
		}
	}
}

// P9.1: in the free map just the head's pages are taken: all others are handed out, from the lowest on.
func TestFormatTakesTheHeadsPagesAlone(t *testing.T) {
	for _, pages := range formatSizes {
		b := formatted(t, pages, 8)
		first := 2 + len(b.m.maps)
		for page := first; page < pages; page++ {
			if got, e := b.newRaw(nil); got != page || e != api.OK {
				t.Fatalf("of %d pages %d is handed out, not %d (%d)", pages, got, page, int(e))
			}
		}
		if page, e := b.p.NewRaw(nil); page != 0 || e != api.ErrFull {
			t.Fatalf("of %d pages: one more is %d, %d", pages, page, int(e))
		}
		b.told("all")
	}
}

// P9.1: Format of what a pager left: nothing of it counts any more, though its epochs are greater.
func TestFormatAnew(t *testing.T) {
	for _, pages := range []int{12, 1030} {
		for commits := range 5 {
			b := formatted(t, pages, 3)
			for range commits {
				b.takes(2)
				b.ok(b.commit([]byte("user")))
			}
			image := b.d.Image()
			p, e := pager.Format(b.d, 2)
			wantErr(t, "Format anew", e, api.OK)
			again := &both{t: t, what: "Format anew", d: b.d, p: p, m: plainFormat(pages)}
			again.told("Format")
			wantImage(t, "Format anew", b.d, formattedImage(image))
			opened(t, b.d, 2).told("Format anew")
		}
	}
}

// P9.1: the power gone at each write and each Sync of Format: ErrPower, and no pager. The head is not written till all that it leads to is stable.
func TestFormatWithThePowerGone(t *testing.T) {
	for _, pages := range []int{8, 1024, 1025, 2048} {
		image := rubbish(pages)
		writes := 2 + plainNeed(pages) // ahead of the first Sync
		for left := range writes + 3 {
			what := fmt.Sprintf("Format of %d pages, %d left", pages, left)
			d := loaded(t, image)
			wantErr(t, "Arm", d.Arm(left), api.OK)
			p, e := pager.Format(d, 3)
			wantErr(t, what, e, api.ErrPower)
			if p != nil || d.On() || d.Ops() != left {
				t.Fatalf("%s: %v, On %v, %d writes and syncs", what, p, d.On(), d.Ops())
			}
			wantErr(t, "Crash", d.Crash(slices.Repeat([]uint8{4}, d.Waits())...), api.OK)
			if left > writes { // the head was written
				wantImage(t, what+", and all comes about", d, formattedImage(image))
				opened(t, d, 2).told("a crash")
				continue
			}
			wantErr(t, what+", without a head: Open", openError(d), api.ErrHead)
			wantErr(t, "Format", formatError(d), api.OK)
		}
		d := loaded(t, image)
		wantErr(t, "Arm", d.Arm(writes+3), api.OK)
		wantErr(t, "Format with as many left as it needs", formatError(d), api.OK)
	}
}

func openError(d *disk.Disk) api.Errno {
	_, e := pager.Open(d, 2)
	return e
}

func formatError(d *disk.Disk) api.Errno {
	_, e := pager.Format(d, 2)
	return e
}

// P9.1: where the power goes behind the first Sync the free map is stable, and the head of noughts, whatever comes about.
func TestFormatInItsOrder(t *testing.T) {
	for _, pages := range []int{8, 1025} {
		image := rubbish(pages)
		want := formattedImage(image)
		clear(want[256:512])
		d := loaded(t, image)
		wantErr(t, "Arm", d.Arm(3+plainNeed(pages)), api.OK) // the head's write is the next one
		wantErr(t, "Format", formatError(d), api.ErrPower)
		if d.Waits() != 1 {
			t.Fatalf("%d writes wait, not the head alone", d.Waits())
		}
		wantErr(t, "Crash", d.Crash(), api.OK)
		wantImage(t, "behind the first Sync", d, want)
	}
}
