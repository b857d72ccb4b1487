package cache_test

import (
	"bytes"
	"fmt"
	"slices"
	"testing"

	"incipit/api"
	"incipit/cache"
	"incipit/disk"
)

// The chapter's own words, as slowly as they are told: what the cache is held against.

// plainPage is a page that is held.
type plainPage struct {
	page    int
	b       []byte
	changed bool
	pins    int
}

// plain is a cache, with a device of its own, on which the same is done.
type plain struct {
	d      *disk.Disk
	size   int
	held   []plainPage // the one that was used last first
	hits   int
	misses int
}

// at is where page p stands in held; -1, if it is not held.
func (m *plain) at(p int) int {
	return slices.IndexFunc(m.held, func(h plainPage) bool { return h.page == p })
}

func (m *plain) toFront(at int) {
	h := m.held[at]
	m.held = append([]plainPage{h}, slices.Concat(m.held[:at], m.held[at+1:])...)
}

func (m *plain) room() api.Errno {
	if len(m.held) < m.size {
		return api.OK
	}
	for at := len(m.held) - 1; at >= 0; at-- {
		h := m.held[at]
		if h.pins > 0 {
			continue
		}
		if h.changed {
			if e := m.d.Write(h.page, h.b); e != api.OK {
				return e
			}
		}
		m.held = slices.Concat(m.held[:at], m.held[at+1:])
		return api.OK
	}
	return api.ErrFull
}

func (m *plain) get(p int) ([]byte, api.Errno) {
	if p < 0 || p >= m.d.Pages() {
		return nil, api.ErrArg
	}
	if at := m.at(p); at >= 0 {
		m.hits++
		m.toFront(at)
		return bytes.Clone(m.held[0].b), api.OK
	}
	m.misses++
	if e := m.room(); e != api.OK {
		return nil, e
	}
	b, e := m.d.Read(p)
	if e != api.OK {
		return nil, e
	}
	m.held = append([]plainPage{{page: p, b: b}}, m.held...)
	return bytes.Clone(b), api.OK
}

func (m *plain) put(p int, b []byte) api.Errno {
	if p < 0 || p >= m.d.Pages() || len(b) != api.PageSize {
		return api.ErrArg
	}
	if at := m.at(p); at >= 0 {
		m.hits++
		m.toFront(at)
		m.held[0].b, m.held[0].changed = bytes.Clone(b), true
		return api.OK
	}
	m.misses++
	if e := m.room(); e != api.OK {
		return e
	}
	m.held = append([]plainPage{{page: p, b: bytes.Clone(b), changed: true}}, m.held...)
	return api.OK
}

func (m *plain) pin(p int) api.Errno {
	at := m.at(p)
	if at < 0 {
		return api.ErrNone
	}
	m.held[at].pins++
	return api.OK
}

func (m *plain) unpin(p int) api.Errno {
	at := m.at(p)
	if at < 0 || m.held[at].pins == 0 {
		return api.ErrNone
	}
	m.held[at].pins--
	return api.OK
}

func (m *plain) forget(p int) api.Errno {
	at := m.at(p)
	if at < 0 {
		return api.ErrNone
	}
	if m.held[at].pins > 0 {
		return api.ErrBusy
	}
	m.held = slices.Concat(m.held[:at], m.held[at+1:])
	return api.OK
}

// flush goes over all pages that there are: so they rise.
func (m *plain) flush() api.Errno {
	for p := range m.d.Pages() {
		at := m.at(p)
		if at < 0 || !m.held[at].changed {
			continue
		}
		if e := m.d.Write(p, m.held[at].b); e != api.OK {
			return e
		}
		m.held[at].changed = false
	}
	return api.OK
}

// told is what a cache tells of itself.
type told struct {
	held    []int // the one that was used last first
	changed []int
	hits    int
	misses  int
}

func (m *plain) told() told {
	is := told{hits: m.hits, misses: m.misses}
	for _, h := range m.held {
		is.held = append(is.held, h.page)
		if h.changed {
			is.changed = append(is.changed, h.page)
		}
	}
	slices.Sort(is.changed)
	return is
}

// state is a page that All tells.
type state struct {
	page    int
	changed bool
}

func all(c *cache.Cache) []state {
	var out []state
	for p, is := range c.All() {
		out = append(out, state{p, is})
	}
	return out
}

// states is what All has to tell, where want is told.
func (want told) states() []state {
	var out []state
	for _, p := range slices.Sorted(slices.Values(want.held)) {
		out = append(out, state{p, slices.Contains(want.changed, p)})
	}
	return out
}

// wantTold asks all that c tells of itself, in each of the calls that tell it.
func wantTold(t *testing.T, what string, c *cache.Cache, want told) {
	t.Helper()
	hits, misses := c.Counts()
	got := told{c.Held(), c.Changed(), hits, misses}
	if !slices.Equal(got.held, want.held) || !slices.Equal(got.changed, want.changed) || hits != want.hits || misses != want.misses {
		t.Fatalf("%s: tells %+v, not %+v", what, got, want)
	}
	if is := all(c); !slices.Equal(is, want.states()) {
		t.Fatalf("%s: All tells %v, not %v", what, is, want.states())
	}
	for p := -2; p < 80; p++ {
		if c.Has(p) != slices.Contains(want.held, p) {
			t.Fatalf("%s: Has(%d) is %v", what, p, c.Has(p))
		}
	}
}

// pins tells how often page p is pinned, and leaves it so.
func pins(t *testing.T, c *cache.Cache, p int) int {
	t.Helper()
	n := 0
	for c.Unpin(p) == api.OK {
		n++
	}
	for range n {
		wantErr(t, "Pin", c.Pin(p), api.OK)
	}
	return n
}

func wantPins(t *testing.T, what string, c *cache.Cache, p, want int) {
	t.Helper()
	if n := pins(t, c, p); n != want {
		t.Fatalf("%s: page %d is pinned %d times, not %d", what, p, n, want)
	}
}

func wantErr(t *testing.T, what string, got, want api.Errno) {
	t.Helper()
	if got != want {
		t.Fatalf("%s: error %d, not %d", what, int(got), int(want))
	}
}

// wantGet asks that page p can be had, and has these bytes.
func wantGet(t *testing.T, what string, c *cache.Cache, p int, want []byte) {
	t.Helper()
	got, e := c.Get(p)
	wantErr(t, fmt.Sprintf("%s: Get(%d)", what, p), e, api.OK)
	if !bytes.Equal(got, want) {
		t.Fatalf("%s: Get(%d) is %v, not %v", what, p, got, want)
	}
}

// wantNoGet asks that page p can't be had, and that nothing stands beside the error.
func wantNoGet(t *testing.T, what string, c *cache.Cache, p int, want api.Errno) {
	t.Helper()
	got, e := c.Get(p)
	wantErr(t, fmt.Sprintf("%s: Get(%d)", what, p), e, want)
	if got != nil {
		t.Fatalf("%s: Get(%d) answers bytes beside an error", what, p)
	}
}

// wantShown asks what the device shows of page p.
func wantShown(t *testing.T, what string, d *disk.Disk, p int, want []byte) {
	t.Helper()
	got, e := d.Read(p)
	wantErr(t, what+": Read", e, api.OK)
	if !bytes.Equal(got, want) {
		t.Fatalf("%s: the device's page %d shows %v, not %v", what, p, got, want)
	}
}

// wantWaits asks how many writes there were, of a device that was never synced.
func wantWaits(t *testing.T, what string, d *disk.Disk, want int) {
	t.Helper()
	if d.Waits() != want {
		t.Fatalf("%s: %d writes, not %d", what, d.Waits(), want)
	}
}

// device is a new device of so many pages.
func device(t *testing.T, pages int) *disk.Disk {
	t.Helper()
	d, e := disk.New(pages)
	wantErr(t, "disk.New", e, api.OK)
	return d
}

// made is a cache of so many pages, and the device of twelve that it is of: page p shows bytes 100 + p there, stable.
func made(t *testing.T, size int) (*cache.Cache, *disk.Disk) {
	t.Helper()
	d := device(t, 12)
	var image []byte
	for p := range 12 {
		image = append(image, shown(p)...)
	}
	wantErr(t, "Load", d.Load(image), api.OK)
	c, e := cache.New(d, size)
	wantErr(t, "New", e, api.OK)
	return c, d
}

// shown is what page p shows of a device that made answered.
func shown(p int) []byte { return page(byte(100 + p)) }

// cut takes d's power away by a write of page p as it shows.
func cut(t *testing.T, d *disk.Disk, p int) {
	t.Helper()
	b, e := d.Read(p)
	wantErr(t, "Read", e, api.OK)
	wantErr(t, "Arm", d.Arm(0), api.OK)
	wantErr(t, "Write", d.Write(p, b), api.ErrPower)
}

// wantPut puts page p, and asks that it is OK.
func wantPut(t *testing.T, c *cache.Cache, p int, b []byte) {
	t.Helper()
	wantErr(t, fmt.Sprintf("Put(%d)", p), c.Put(p, b), api.OK)
}

func wantPin(t *testing.T, c *cache.Cache, p int) {
	t.Helper()
	wantErr(t, fmt.Sprintf("Pin(%d)", p), c.Pin(p), api.OK)
}

// page is a page of bytes like that.
func page(like byte) []byte { return bytes.Repeat([]byte{like}, api.PageSize) }

// run answers n bytes that look like no rule, always the same ones of a seed.
func run(n int, seed uint32) []byte {
	b := make([]byte, n)
	for i := range b {
		seed = seed*1664525 + 1013904223
		b[i] = byte(seed >> 24)
	}
	return b
}
