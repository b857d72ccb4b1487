package pager_test

import (
	"bytes"
	"fmt"
	"slices"
	"testing"

	"incipit/api"
	"incipit/disk"
	"incipit/pager"
)

// both is a pager beside its plain one: what is done is done with both, and the answers are held against each other. Where the power went in a call it must answer ErrPower, and the plain one is left as it was.
type both struct {
	t     *testing.T
	what  string
	d     *disk.Disk
	p     *pager.Pager
	m     *plain
	last  *plain // as the last commit left it, that was OK
	doubt *plain // as the commit would have left it, in which the power went
}

func wantErr(t *testing.T, what string, got, want api.Errno) {
	t.Helper()
	if got != want {
		t.Fatalf("%s answers %d, not %d", what, int(got), int(want))
	}
}

// device is a new device of so many pages.
func device(t *testing.T, pages int) *disk.Disk {
	t.Helper()
	d, e := disk.New(pages)
	wantErr(t, "disk.New", e, api.OK)
	return d
}

// loaded is a device with that image.
func loaded(t *testing.T, image []byte) *disk.Disk {
	t.Helper()
	d := device(t, len(image)/256)
	wantErr(t, "Load", d.Load(image), api.OK)
	return d
}

// formatted is a pager of a new device, beside its plain one.
func formatted(t *testing.T, pages, size int) *both {
	t.Helper()
	d := device(t, pages)
	p, e := pager.Format(d, size)
	wantErr(t, fmt.Sprintf("Format(%d, %d)", pages, size), e, api.OK)
	m := plainFormat(pages)
	b := &both{t: t, what: fmt.Sprintf("%d pages, cache %d", pages, size), d: d, p: p, m: m, last: m.clone()}
	b.told("Format")
	return b
}

// opened is a pager of a device as it shows, beside its plain one.
func opened(t *testing.T, d *disk.Disk, size int) *both {
	t.Helper()
	p, e := pager.Open(d, size)
	wantErr(t, "Open", e, api.OK)
	m, e := plainOpen(shows(t, d))
	wantErr(t, "the image, by hand,", e, api.OK)
	b := &both{t: t, what: "opened", d: d, p: p, m: m, last: m.clone()}
	b.told("Open")
	return b
}

// shows is what all pages of a device show.
func shows(t *testing.T, d *disk.Disk) []byte {
	t.Helper()
	var image []byte
	for p := range d.Pages() {
		b, e := d.Read(p)
		wantErr(t, "disk.Read", e, api.OK)
		image = append(image, b...)
	}
	return image
}

// told asks for all that the pager tells of itself.
func (b *both) told(call string) {
	b.t.Helper()
	p, m := b.p, b.m
	if p.Epoch() != m.epoch || p.Pages() != len(m.page) || !slices.Equal(p.Maps(), m.maps) || !bytes.Equal(p.User(), m.user) {
		b.t.Fatalf("%s: behind %s: epoch %d, %d pages, maps %v, user %v, not %d, %d, %v, %v", b.what, call, p.Epoch(), p.Pages(), p.Maps(), p.User(), m.epoch, len(m.page), m.maps, m.user)
	}
	if !slices.Equal(p.Taken(), m.taken()) || p.Avail() != len(m.those(isFree)) {
		b.t.Fatalf("%s: behind %s: taken %v, %d free, not %v, %d", b.what, call, p.Taken(), p.Avail(), m.taken(), len(m.those(isFree)))
	}
	if p.On() != b.d.On() {
		b.t.Fatalf("%s: behind %s: On is %v", b.what, call, p.On())
	}
	for page := -3; page < len(m.page)+3; page++ {
		if p.Mine(page) != m.mine(page) {
			b.t.Fatalf("%s: behind %s: Mine(%d) is %v", b.what, call, page, p.Mine(page))
		}
	}
}

// same asks whether an answer is the plain one's; where the power is gone, whether it is ErrPower, and nothing else.
func (b *both) same(call string, gotPage int, got []byte, e api.Errno, plain func() (int, []byte, api.Errno)) api.Errno {
	b.t.Helper()
	wantPage, want, f := 0, []byte(nil), api.ErrPower
	if b.d.On() {
		wantPage, want, f = plain()
	}
	if e != f || gotPage != wantPage || !bytes.Equal(got, want) || e != api.OK && got != nil {
		b.t.Fatalf("%s: %s answers %d, %v, error %d, not %d, %v, error %d", b.what, call, gotPage, got, int(e), wantPage, want, int(f))
	}
	return e
}

func (b *both) new(kind int, data []byte) (int, api.Errno) {
	b.t.Helper()
	page, e := b.p.New(kind, data)
	return page, b.same(fmt.Sprintf("New(%d, %d bytes)", kind, len(data)), page, nil, e, func() (int, []byte, api.Errno) {
		p, e := b.m.new(kind, data)
		return p, nil, e
	})
}

func (b *both) newRaw(data []byte) (int, api.Errno) {
	b.t.Helper()
	page, e := b.p.NewRaw(data)
	return page, b.same(fmt.Sprintf("NewRaw(%d bytes)", len(data)), page, nil, e, func() (int, []byte, api.Errno) {
		p, e := b.m.newRaw(data)
		return p, nil, e
	})
}

func (b *both) put(page, kind int, data []byte) api.Errno {
	b.t.Helper()
	e := b.p.Put(page, kind, data)
	return b.same(fmt.Sprintf("Put(%d, %d, %d bytes)", page, kind, len(data)), 0, nil, e, func() (int, []byte, api.Errno) {
		return 0, nil, b.m.put(page, kind, data)
	})
}

func (b *both) putRaw(page int, data []byte) api.Errno {
	b.t.Helper()
	e := b.p.PutRaw(page, data)
	return b.same(fmt.Sprintf("PutRaw(%d, %d bytes)", page, len(data)), 0, nil, e, func() (int, []byte, api.Errno) {
		return 0, nil, b.m.putRaw(page, data)
	})
}

func (b *both) read(page, kind int) api.Errno {
	b.t.Helper()
	got, e := b.p.Read(page, kind)
	return b.same(fmt.Sprintf("Read(%d, %d)", page, kind), 0, got, e, func() (int, []byte, api.Errno) {
		want, e := b.m.read(page, kind)
		return 0, want, e
	})
}

func (b *both) raw(page int) api.Errno {
	b.t.Helper()
	got, e := b.p.Raw(page)
	return b.same(fmt.Sprintf("Raw(%d)", page), 0, got, e, func() (int, []byte, api.Errno) {
		want, e := b.m.raw(page)
		return 0, want, e
	})
}

func (b *both) free(page int) api.Errno {
	b.t.Helper()
	e := b.p.Free(page)
	return b.same(fmt.Sprintf("Free(%d)", page), 0, nil, e, func() (int, []byte, api.Errno) {
		return 0, nil, b.m.free(page)
	})
}

func (b *both) commit(user []byte) api.Errno {
	b.t.Helper()
	on := b.d.On()
	e := b.p.Commit(user)
	if on && !b.d.On() {
		b.doubt = b.m.clone()
		wantErr(b.t, b.what+": a commit in doubt", b.doubt.commit(user), api.OK)
	}
	b.same(fmt.Sprintf("Commit(%d bytes)", len(user)), 0, nil, e, func() (int, []byte, api.Errno) {
		return 0, nil, b.m.commit(user)
	})
	if e == api.OK {
		b.last = b.m.clone()
	}
	return e
}

func (b *both) abort() api.Errno {
	b.t.Helper()
	e := b.p.Abort()
	return b.same("Abort()", 0, nil, e, func() (int, []byte, api.Errno) {
		b.m.abort()
		return 0, nil, api.OK
	})
}

// readAll reads each page, framed as each kind, and raw.
func (b *both) readAll(call string) {
	b.t.Helper()
	b.told(call)
	for page := -1; page <= len(b.m.page); page++ {
		b.raw(page)
		for kind := 1; kind <= 4; kind++ {
			b.read(page, kind)
		}
	}
	b.told(call + ", and Reads")
}

// ok asks that each of these is OK.
func (b *both) ok(answers ...api.Errno) {
	b.t.Helper()
	for i, e := range answers {
		wantErr(b.t, fmt.Sprintf("%s: act %d", b.what, i), e, api.OK)
	}
}

// takes takes so many pages, framed and raw ones in turns, and answers them.
func (b *both) takes(n int) []int {
	b.t.Helper()
	var l []int
	for i := range n {
		page, e := 0, api.OK
		if i%2 == 0 {
			page, e = b.new(api.KindLeaf, []byte{byte(i), 7})
		} else {
			page, e = b.newRaw([]byte{byte(i), 8, 8})
		}
		b.ok(e)
		l = append(l, page)
	}
	return l
}

// cut takes the power away by a write of a page as it shows.
func (b *both) cut() {
	b.t.Helper()
	page := b.d.Pages() - 1
	as, e := b.d.Read(page)
	wantErr(b.t, "disk.Read", e, api.OK)
	wantErr(b.t, "Arm", b.d.Arm(0), api.OK)
	wantErr(b.t, "disk.Write", b.d.Write(page, as), api.ErrPower)
}

// act does one act that is drawn.
func (b *both) act(r *draws) string {
	b.t.Helper()
	pages := len(b.m.page)
	page := r.below(pages+4) - 1
	if r.below(40) == 0 {
		page = farPages[r.below(len(farPages))]
	}
	kind := 1 + r.below(4)
	if r.below(20) == 0 {
		kind = noKinds[r.below(len(noKinds))]
	}
	switch k := r.below(40); {
	case k < 8:
		b.new(kind, r.some(242))
		return "New"
	case k < 12:
		b.newRaw(r.some(258))
		return "NewRaw"
	case k < 17:
		b.put(page, kind, r.some(242))
		return "Put"
	case k < 22:
		b.putRaw(page, b.rawBytes(r, page))
		return "PutRaw"
	case k < 28:
		b.free(page)
		return "Free"
	case k < 31:
		b.commit(r.some(34))
		return "Commit"
	case k < 32:
		b.abort()
		return "Abort"
	case k < 36:
		b.read(page, kind)
		return "Read"
	}
	b.raw(page)
	return "Raw"
}

// rawBytes draws bytes for a raw page, at times such as are a frame there, or elsewhere.
func (b *both) rawBytes(r *draws, page int) []byte {
	switch r.below(8) {
	case 0:
		return plainFrame(1+r.below(4), page, uint64(r.below(9)), r.some(241))
	case 1:
		return plainFrame(1+r.below(4), page+1, uint64(r.below(9)), r.some(241))
	}
	return r.some(258)
}
