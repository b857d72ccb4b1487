package disk_test

import (
	"bytes"
	"testing"

	"incipit/api"
	"incipit/disk"
)

// draws is a rule by which lives are drawn, always the same of a seed.
type draws uint32

// below draws a number from 0 on, below n.
func (r *draws) below(n int) int {
	*r = *r*1664525 + 1013904223
	return int(uint32(*r)>>8) % n
}

func (r *draws) page() []byte { return run(api.PageSize, uint32(r.below(1<<20))) }

func (r *draws) picks(most int) []uint8 {
	pick := make([]uint8, r.below(most+1))
	for i := range pick {
		pick[i] = uint8(r.below(256))
	}
	return pick
}

// step does one thing to both, and asks that they answer the same.
func (r *draws) step(t *testing.T, d *disk.Disk, m *plain) {
	t.Helper()
	switch r.below(16) {
	case 0, 1:
		wantErr(t, "Sync", d.Sync(), m.sync())
	case 2:
		n := r.below(8) - 1
		wantErr(t, "Arm", d.Arm(n), m.arm(n))
	case 3:
		wantErr(t, "Calm", d.Calm(), m.calm())
	case 4, 5:
		pick := r.picks(len(m.waits) + 2)
		wantErr(t, "Crash", d.Crash(pick...), m.crash(pick))
	case 6:
		image := run(m.pages*api.PageSize-r.below(2), uint32(r.below(1000)))
		wantErr(t, "Load", d.Load(image), m.load(image))
	default:
		p, b := r.below(m.pages+2)-1, r.page()
		b = b[:api.PageSize-r.below(20)/19]
		wantErr(t, "Write", d.Write(p, b), m.write(p, b))
	}
}

// P3.1 to P3.3: over whole lives each answer is that of the chapter's words; a clone lives on as its device does.
func TestLives(t *testing.T) {
	for seed := range 60 {
		r := draws(seed)
		pages := api.MinPages + r.below(5)
		d, m := device(t, pages), newPlain(pages)
		for range 150 {
			r.step(t, d, m)
			wantAs(t, "a life", d, m)
			if r.below(10) == 0 {
				d = d.Clone()
			}
		}
	}
}

// P3.4: a page that was not written since a Sync is behind any Crash as that left it.
func TestWhatWasSyncedStays(t *testing.T) {
	for seed := range 300 {
		r := draws(seed)
		d := device(t, 12)
		for range r.below(30) {
			wantWrite(t, d, r.below(12), r.page())
		}
		wantErr(t, "Sync", d.Sync(), api.OK)
		left := d.Image()
		wantErr(t, "Arm", d.Arm(r.below(12)), api.OK)
		written := map[int]bool{}
		for range r.below(12) {
			p := r.below(12)
			written[p] = written[p] || d.On() // what is written behind the power is no write
			d.Write(p, r.page())
		}
		wantErr(t, "Crash", d.Crash(r.picks(14)...), api.OK)
		for p := range 12 {
			if !written[p] {
				wantPage(t, "not written since", d, p, left[p*256:(p+1)*256])
			}
		}
	}
}

// wantOneOf asks that each sector of what page p shows is as in one of those.
func wantOneOf(t *testing.T, d *disk.Disk, p int, those [][]byte) {
	t.Helper()
	got, e := d.Read(p)
	wantErr(t, "Read", e, api.OK)
	for at := 0; at < api.PageSize; at += api.Sector {
		found := false
		for _, one := range those {
			found = found || bytes.Equal(got[at:at+api.Sector], one[at:at+api.Sector])
		}
		if !found {
			t.Fatalf("page %d: the sector at %d is neither as it was nor as it was written", p, at)
		}
	}
}

// P3.5: behind a Crash each sector of a page is as it was stable, or as in a write that waited.
func TestSectorsAreWhole(t *testing.T) {
	for seed := range 300 {
		r := draws(seed + 1000)
		d := device(t, 8)
		wantErr(t, "Load", d.Load(run(8*256, uint32(seed))), api.OK)
		image := d.Image()
		those := make([][][]byte, 8)
		for p := range those {
			those[p] = [][]byte{image[p*256 : (p+1)*256]}
		}
		wantErr(t, "Arm", d.Arm(r.below(20)), api.OK)
		for range r.below(20) {
			p, b := r.below(8), r.page()
			if d.On() { // what is written behind the power does not wait
				those[p] = append(those[p], b)
			}
			d.Write(p, b)
		}
		wantErr(t, "Crash", d.Crash(r.picks(22)...), api.OK)
		for p := range those {
			wantOneOf(t, d, p, those[p])
		}
	}
}

// P3.6: a Crash by which all comes about whole leaves what the pages show.
func TestAllOfItComesAbout(t *testing.T) {
	whole := []uint8{4, 9, 14, 249, 254}
	for seed := range 300 {
		r := draws(seed + 2000)
		d := device(t, 10)
		for range r.below(40) {
			if r.below(8) == 0 {
				wantErr(t, "Sync", d.Sync(), api.OK)
			}
			wantWrite(t, d, r.below(10), r.page())
		}
		var shown [][]byte
		for p := range 10 {
			b, e := d.Read(p)
			wantErr(t, "Read", e, api.OK)
			shown = append(shown, b)
		}
		pick := make([]uint8, d.Waits()+r.below(3))
		for i := range pick {
			pick[i] = whole[r.below(len(whole))]
		}
		wantErr(t, "Crash", d.Crash(pick...), api.OK)
		for p := range shown {
			wantPage(t, "all of it", d, p, shown[p])
			wantStable(t, "all of it", d, p, shown[p])
		}
	}
}

// R6: the same calls answer the same.
func TestTheSameCallsAnswerTheSame(t *testing.T) {
	var first []byte
	for range 5 {
		r := draws(77)
		d := device(t, 300)
		for range 1000 {
			wantWrite(t, d, r.below(300), r.page())
			if r.below(300) == 0 {
				wantErr(t, "Sync", d.Sync(), api.OK)
			}
		}
		wantErr(t, "Crash", d.Crash(r.picks(1000)...), api.OK)
		if first == nil {
			first = d.Image()
		}
		if !bytes.Equal(first, d.Image()) {
			t.Fatal("the image is another one")
		}
	}
}

// THE BOUND: many writes that wait, of one page and of all, are not gone through for each write, or each read.
func TestManyWritesInTime(t *testing.T) {
	const n = 100_000
	d := device(t, api.MaxPages)
	b := page(1)
	for i := range n {
		wantWrite(t, d, i%api.MaxPages*(i%2), b)
		if got, e := d.Read(0); e != api.OK || got[255] != 1 {
			t.Fatal(e)
		}
	}
	wantTold(t, "many", d, told{on: true, waits: n, ops: n})
	c := d.Clone()
	wantErr(t, "Crash", c.Crash(bytes.Repeat([]byte{4}, n)...), api.OK)
	wantErr(t, "Sync", d.Sync(), api.OK)
	if !bytes.Equal(c.Image(), d.Image()) {
		t.Fatal("a crash by which all comes about is not as a sync")
	}
}

// R1, P3.1 to P3.3: any life ends, and each answer is that of the chapter's words.
func FuzzLife(f *testing.F) {
	f.Add(uint32(1), uint8(50))
	f.Add(uint32(99), uint8(255))
	f.Fuzz(func(t *testing.T, seed uint32, steps uint8) {
		r := draws(seed)
		d, m := device(t, api.MinPages), newPlain(api.MinPages)
		for range steps {
			r.step(t, d, m)
			wantAs(t, "a life", d, m)
		}
	})
}
