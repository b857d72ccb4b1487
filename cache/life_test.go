package cache_test

import (
	"bytes"
	"fmt"
	"testing"

	"incipit/api"
	"incipit/cache"
	"incipit/disk"
)

// draws is a rule by which lives are drawn, always the same of a seed.
type draws uint32

// below draws a number from 0 on, below n.
func (r *draws) below(n int) int {
	*r = *r*1664525 + 1013904223
	return int(uint32(*r)>>8) % n
}

func (r *draws) page() []byte { return run(api.PageSize, uint32(r.below(1<<20))) }

func (r *draws) picks(most int) []uint8 {
	pick := make([]uint8, r.below(most+1))
	for i := range pick {
		pick[i] = uint8(r.below(256))
	}
	return pick
}

// twins are a cache and its device, and the chapter's words of both.
type twins struct {
	c *cache.Cache
	d *disk.Disk
	m *plain
}

func newTwins(t *testing.T, pages, size int) twins {
	t.Helper()
	d := device(t, pages)
	wantErr(t, "Load", d.Load(run(pages*api.PageSize, uint32(size))), api.OK)
	c, e := cache.New(d, size)
	wantErr(t, "New", e, api.OK)
	return twins{c, d, &plain{d: d.Clone(), size: size}}
}

// same asks that both tell the same of themselves, and that their devices do.
func (w twins) same(t *testing.T, what string) {
	t.Helper()
	wantTold(t, what, w.c, w.m.told())
	for _, h := range w.m.held {
		wantPins(t, what, w.c, h.page, h.pins)
	}
	o := w.m.d
	if w.d.On() != o.On() || w.d.Waits() != o.Waits() || w.d.Ops() != o.Ops() || !bytes.Equal(w.d.Image(), o.Image()) {
		t.Fatalf("%s: the device is not as by the chapter's words", what)
	}
	for p := range o.Pages() {
		got, e := w.d.Read(p)
		want, f := o.Read(p)
		if e != f || !bytes.Equal(got, want) {
			t.Fatalf("%s: the device's page %d is not as by the chapter's words", what, p)
		}
	}
}

// sameBytes asks for the bytes of each page that is held; the one that was used longest ago comes first, so that the order stays.
func (w twins) sameBytes(t *testing.T) {
	t.Helper()
	for i := len(w.m.held) - 1; i >= 0; i-- {
		w.get(t, w.m.held[len(w.m.held)-1].page)
	}
}

func (w twins) get(t *testing.T, p int) {
	t.Helper()
	got, e := w.c.Get(p)
	want, f := w.m.get(p)
	wantErr(t, fmt.Sprintf("Get(%d)", p), e, f)
	if !bytes.Equal(got, want) {
		t.Fatalf("Get(%d) is %v, not %v", p, got, want)
	}
}

// step does one thing to both, and asks that they answer the same.
func (w twins) step(t *testing.T, r *draws) string {
	t.Helper()
	p := r.below(w.d.Pages()+2) - 1
	what := ""
	both := func(name string, got, want api.Errno) {
		t.Helper()
		what = fmt.Sprintf("%s, page %d", name, p)
		wantErr(t, what, got, want)
	}
	switch r.below(24) {
	case 0, 1, 2:
		both("Pin", w.c.Pin(p), w.m.pin(p))
	case 3, 4, 5:
		both("Unpin", w.c.Unpin(p), w.m.unpin(p))
	case 6, 7:
		both("Forget", w.c.Forget(p), w.m.forget(p))
	case 8:
		both("Flush", w.c.Flush(), w.m.flush())
	case 9:
		if r.below(4) == 0 {
			w.c.Drop()
			w.m.held = nil
		}
	case 10:
		return w.stepOfDevice(t, r)
	case 11, 12, 13, 14, 15, 16:
		b := r.page()[:api.PageSize-r.below(20)/19]
		both("Put", w.c.Put(p, b), w.m.put(p, b))
	default:
		what = "Get"
		w.get(t, p)
	}
	return what
}

// stepOfDevice does one thing to both devices, behind the caches' backs.
func (w twins) stepOfDevice(t *testing.T, r *draws) string {
	t.Helper()
	o := w.m.d
	switch r.below(5) {
	case 0:
		n := r.below(6)
		wantErr(t, "Arm", w.d.Arm(n), o.Arm(n))
	case 1, 2:
		pick := r.picks(o.Waits() + 1)
		wantErr(t, "Crash", w.d.Crash(pick...), o.Crash(pick...))
	case 3:
		wantErr(t, "Sync", w.d.Sync(), o.Sync())
	default:
		p, b := r.below(o.Pages()), r.page()
		wantErr(t, "Write", w.d.Write(p, b), o.Write(p, b))
	}
	return "the device"
}

// P5.1, P5.2: over whole lives each answer, and what the device is given, is as by the chapter's words.
func TestLives(t *testing.T) {
	for seed := range 200 {
		r := draws(seed)
		w := newTwins(t, api.MinPages+r.below(5), api.MinCache+r.below(5))
		for range 200 {
			w.same(t, w.step(t, &r))
		}
		w.sameBytes(t)
		w.same(t, "the bytes")
	}
}

// P5.1, P5.2: so are lives of many pages.
func TestLivesOfManyPages(t *testing.T) {
	for seed := range 4 {
		r := draws(seed + 500)
		w := newTwins(t, 75, api.MaxCache-seed)
		for range 600 {
			w.same(t, w.step(t, &r))
		}
		w.sameBytes(t)
	}
}

// account is what was put, of each page, since it was forgotten or dropped.
type account map[int][]byte

// tells is what P5.3 says that a page's Get tells.
func (a account) tells(t *testing.T, d *disk.Disk, p int) []byte {
	t.Helper()
	if b, is := a[p]; is {
		return b
	}
	b, e := d.Read(p)
	wantErr(t, "Read", e, api.OK)
	return b
}

// step does one thing to the cache, and keeps the account.
func (a account) step(t *testing.T, r *draws, c *cache.Cache, pages int) {
	t.Helper()
	p, b := r.below(pages), r.page()
	switch r.below(20) {
	case 0, 1, 2:
		if c.Forget(p) == api.OK {
			delete(a, p)
		}
	case 3:
		if r.below(8) == 0 {
			c.Drop()
			clear(a)
		}
	case 4:
		c.Flush()
	case 5, 6:
		c.Pin(p)
	case 7, 8, 9:
		c.Unpin(p)
	case 10, 11, 12, 13, 14:
		if c.Put(p, b) == api.OK {
			a[p] = bytes.Clone(b)
		}
	default:
		c.Get(p)
	}
}

// P5.3: what Get tells of a page is what was put there last since it was forgotten or dropped, or else what the device shows.
func TestShows(t *testing.T) {
	for seed := range 300 {
		r := draws(seed + 3000)
		pages, size := api.MinPages+r.below(6), api.MinCache+r.below(6)
		d := device(t, pages)
		wantErr(t, "Load", d.Load(run(pages*api.PageSize, 9)), api.OK)
		c, e := cache.New(d, size)
		wantErr(t, "New", e, api.OK)
		a := account{}
		for range 150 {
			a.step(t, &r, c, pages)
			p := r.below(pages)
			want := a.tells(t, d, p)
			if got, e := c.Get(p); e == api.OK && !bytes.Equal(got, want) {
				t.Fatalf("seed %d: page %d is neither what was put nor what the device shows", seed, p)
			} else if e != api.OK && e != api.ErrFull {
				t.Fatal("Get", p, e)
			}
		}
	}
}

// P5.3: without power, too, where it tells anything at all; a page that is put, and went, is never told as something else.
func TestShowsWherePowerGoes(t *testing.T) {
	for seed := range 300 {
		r := draws(seed + 4000)
		d := device(t, 8)
		c, e := cache.New(d, api.MinCache+r.below(4))
		wantErr(t, "New", e, api.OK)
		a := account{}
		wantErr(t, "Arm", d.Arm(r.below(12)), api.OK)
		for range 60 {
			a.step(t, &r, c, 8)
		}
		for p := range 8 {
			got, e := c.Get(p)
			if want, put := a[p]; e == api.OK && put && !bytes.Equal(got, want) {
				t.Fatalf("seed %d: page %d is not what was put", seed, p)
			}
			if e == api.ErrPower && d.On() {
				t.Fatalf("seed %d: ErrPower, and the power is there", seed)
			}
		}
	}
}

// P5.4: behind a Flush that is OK the device shows all that is held; where it is not OK, something is changed still.
func TestFlushed(t *testing.T) {
	for seed := range 400 {
		r := draws(seed + 5000)
		d := device(t, 10)
		c, e := cache.New(d, api.MinCache+r.below(7))
		wantErr(t, "New", e, api.OK)
		if r.below(2) == 0 {
			wantErr(t, "Arm", d.Arm(r.below(30)), api.OK)
		}
		a := account{}
		for range r.below(80) {
			a.step(t, &r, c, 10)
		}
		e = c.Flush()
		if (e == api.OK) != (len(c.Changed()) == 0) {
			t.Fatalf("seed %d: Flush answers %d, and %v are changed", seed, int(e), c.Changed())
		}
		if e != api.OK || !d.On() {
			continue
		}
		for _, p := range c.Held() {
			b, e := c.Get(p)
			wantErr(t, "Get", e, api.OK)
			wantShown(t, fmt.Sprint("seed ", seed), d, p, b)
		}
	}
}

// pinned is how often each page was pinned, and not unpinned since.
type pinned map[int]int

// step does one thing to the cache, and keeps count.
func (n pinned) step(r *draws, c *cache.Cache) {
	p := r.below(10)
	switch r.below(8) {
	case 0:
		if c.Pin(p) == api.OK {
			n[p]++
		}
	case 1:
		if c.Unpin(p) == api.OK {
			n[p]--
		}
	case 2:
		c.Forget(p)
	case 3:
		c.Put(p, r.page())
	case 4:
		c.Flush()
	case 5:
		if r.below(10) == 0 {
			c.Drop()
			clear(n)
		}
	default:
		c.Get(p)
	}
}

// P5.5: a page that is pinned stays held, till it is unpinned as often, or all is dropped; also where the power goes.
func TestPinned(t *testing.T) {
	for seed := range 300 {
		r := draws(seed + 6000)
		d := device(t, 10)
		c, e := cache.New(d, api.MinCache+r.below(4))
		wantErr(t, "New", e, api.OK)
		if r.below(2) == 0 {
			wantErr(t, "Arm", d.Arm(r.below(40)), api.OK)
		}
		n := pinned{}
		for range 120 {
			n.step(&r, c)
			for p, often := range n {
				if often < 0 || often > 0 && !c.Has(p) {
					t.Fatalf("seed %d: page %d is pinned %d times, and held: %v", seed, p, often, c.Has(p))
				}
			}
		}
		for p, often := range n {
			wantPins(t, fmt.Sprint("seed ", seed), c, p, often)
		}
	}
}

// R1, P5.1, P5.2: any life ends, and each answer is that of the chapter's words.
func FuzzLife(f *testing.F) {
	f.Add(uint32(1), uint8(2), uint8(50))
	f.Add(uint32(99), uint8(7), uint8(255))
	f.Fuzz(func(t *testing.T, seed uint32, size, steps uint8) {
		r := draws(seed)
		w := newTwins(t, api.MinPages+r.below(70), api.MinCache+int(size)%(api.MaxCache-api.MinCache+1))
		for range steps {
			w.same(t, w.step(t, &r))
		}
		w.sameBytes(t)
	})
}
