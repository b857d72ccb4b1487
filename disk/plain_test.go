package disk_test

import (
	"bytes"
	"testing"

	"incipit/api"
	"incipit/disk"
)

// The chapter's own words, as slowly as they are told: what the device is held against.

// plainWrite is a write that waits.
type plainWrite struct {
	page int
	b    []byte
}

// plain is a device.
type plain struct {
	pages  int
	stable []byte
	waits  []plainWrite
	gone   bool
	armed  bool
	left   int
	ops    int
}

func newPlain(pages int) *plain {
	return &plain{pages: pages, stable: make([]byte, pages*api.PageSize)}
}

// shows is what page p shows, found by going through all that waits.
func (m *plain) shows(p int) []byte {
	out := bytes.Clone(m.stable[p*api.PageSize : (p+1)*api.PageSize])
	for _, w := range m.waits {
		if w.page == p {
			out = bytes.Clone(w.b)
		}
	}
	return out
}

// showsAll is what all pages show, one behind the other.
func (m *plain) showsAll() []byte {
	var out []byte
	for p := range m.pages {
		out = append(out, m.shows(p)...)
	}
	return out
}

func (m *plain) write(p int, b []byte) api.Errno {
	if p < 0 || p >= m.pages || len(b) != api.PageSize {
		return api.ErrArg
	}
	if m.gone {
		return api.ErrPower
	}
	m.waits = append(m.waits, plainWrite{p, bytes.Clone(b)})
	if m.armed && m.left == 0 {
		m.gone = true
		return api.ErrPower
	}
	m.left--
	m.ops++
	return api.OK
}

func (m *plain) sync() api.Errno {
	if m.gone {
		return api.ErrPower
	}
	if m.armed && m.left == 0 {
		m.gone = true
		return api.ErrPower
	}
	m.stable, m.waits = m.showsAll(), nil
	m.left--
	m.ops++
	return api.OK
}

func (m *plain) arm(n int) api.Errno {
	if n < 0 {
		return api.ErrArg
	}
	if m.gone {
		return api.ErrPower
	}
	m.armed, m.left = true, n
	return api.OK
}

func (m *plain) calm() api.Errno {
	if m.gone {
		return api.ErrPower
	}
	m.armed = false
	return api.OK
}

func (m *plain) crash(pick []uint8) api.Errno {
	for i, w := range m.waits {
		for at := range api.PageSize {
			if i < len(pick) && at/api.Sector < int(pick[i])%5 {
				m.stable[w.page*api.PageSize+at] = w.b[at]
			}
		}
	}
	m.waits, m.gone, m.armed = nil, false, false
	return api.OK
}

func (m *plain) load(image []byte) api.Errno {
	if len(image) != m.pages*api.PageSize {
		return api.ErrArg
	}
	m.stable, m.waits, m.gone, m.armed = bytes.Clone(image), nil, false, false
	return api.OK
}

func (m *plain) clone() *plain {
	other := *m
	other.stable = bytes.Clone(m.stable)
	other.waits = append([]plainWrite(nil), m.waits...)
	return &other
}

// wantAs asks that d tells all that m tells.
func wantAs(t *testing.T, what string, d *disk.Disk, m *plain) {
	t.Helper()
	wantTold(t, what, d, told{on: !m.gone, waits: len(m.waits), ops: m.ops})
	if d.Pages() != m.pages || !bytes.Equal(d.Image(), m.stable) {
		t.Fatalf("%s: %d pages, or what is stable, is not as in the chapter's words", what, d.Pages())
	}
	for p := range m.pages {
		if m.gone {
			wantNoRead(t, what, d, p, api.ErrPower)
		} else {
			wantPage(t, what, d, p, m.shows(p))
		}
	}
}

// told is what a device tells of itself beside its pages.
type told struct {
	on    bool
	waits int
	ops   int
}

func wantTold(t *testing.T, what string, d *disk.Disk, want told) {
	t.Helper()
	if got := (told{d.On(), d.Waits(), d.Ops()}); got != want {
		t.Fatalf("%s: tells %+v, not %+v", what, got, want)
	}
}

func wantErr(t *testing.T, what string, got, want api.Errno) {
	t.Helper()
	if got != want {
		t.Fatalf("%s: error %d, not %d", what, int(got), int(want))
	}
}

// wantPage asks that page p can be read, and shows want.
func wantPage(t *testing.T, what string, d *disk.Disk, p int, want []byte) {
	t.Helper()
	got, e := d.Read(p)
	wantErr(t, what+": Read", e, api.OK)
	if !bytes.Equal(got, want) {
		t.Fatalf("%s: page %d shows %v, not %v", what, p, got, want)
	}
}

// wantNoRead asks that page p can't be read, and that nothing stands beside the error.
func wantNoRead(t *testing.T, what string, d *disk.Disk, p int, want api.Errno) {
	t.Helper()
	got, e := d.Read(p)
	wantErr(t, what+": Read", e, want)
	if got != nil {
		t.Fatalf("%s: Read answers bytes beside an error", what)
	}
}

// wantStable asks what is stable of page p.
func wantStable(t *testing.T, what string, d *disk.Disk, p int, want []byte) {
	t.Helper()
	if got := d.Image()[p*api.PageSize : (p+1)*api.PageSize]; !bytes.Equal(got, want) {
		t.Fatalf("%s: of page %d is stable %v, not %v", what, p, got, want)
	}
}

// device is a new device of so many pages.
func device(t *testing.T, pages int) *disk.Disk {
	t.Helper()
	d, e := disk.New(pages)
	wantErr(t, "New", e, api.OK)
	return d
}

// wantWrite writes page p, and asks that it is OK.
func wantWrite(t *testing.T, d *disk.Disk, p int, b []byte) {
	t.Helper()
	wantErr(t, "Write", d.Write(p, b), api.OK)
}

// page is a page of bytes c.
func page(c byte) []byte { return bytes.Repeat([]byte{c}, api.PageSize) }

// parts is a page of four sectors, each of one byte's like.
func parts(a, b, c, d byte) []byte {
	var out []byte
	for _, like := range []byte{a, b, c, d} {
		out = append(out, bytes.Repeat([]byte{like}, 64)...)
	}
	return out
}

// run answers n bytes that look like no rule, always the same ones of a seed.
func run(n int, seed uint32) []byte {
	b := make([]byte, n)
	for i := range b {
		seed = seed*1664525 + 1013904223
		b[i] = byte(seed >> 24)
	}
	return b
}
