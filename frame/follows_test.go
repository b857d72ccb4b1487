package frame_test

import (
	"bytes"
	"fmt"
	"testing"

	"incipit/api"
	"incipit/frame"
)

// P4.4: Get of Put is the frame, over many frames.
func TestGetOfPut(t *testing.T) {
	r := draws(1)
	for range 5000 {
		f := r.frame()
		wantErr(t, "Check", frame.Check(f), plainCheck(f))
		b, e := frame.Put(f)
		wantErr(t, "Put", e, api.OK)
		wantBytes(t, "Put", b, plainPut(f))
		g, e := frame.Get(b, f.Page)
		wantErr(t, "Get", e, api.OK)
		if !frame.Same(f, g) || !plainSame(f, g) || len(g.Data) != api.Payload {
			t.Fatalf("Get of Put of %v is %v", f, g)
		}
	}
}

// drawPage draws a page with a right sum, often one that Get takes.
func (r *draws) drawPage() []byte {
	kind, nought, number := byte(1+r.below(4)), byte(0), uint16(r.below(api.MaxPages))
	switch r.below(8) {
	case 0:
		kind = byte(r.below(256))
	case 1:
		nought = byte(r.below(3))
	case 2:
		number = uint16(r.below(1 << 16))
	}
	data := run(r.below(api.Payload+1), uint32(r.below(1<<20)))
	return laid(kind, nought, number, epochs[r.below(len(epochs))], data)
}

// P4.4, P4.2: what Get takes is Put of it, byte by byte; and it takes just what the chapter's words take.
func TestPutOfGet(t *testing.T) {
	r := draws(2)
	met := map[api.Errno]int{}
	for range 5000 {
		b := r.drawPage()
		page := int(b[6])<<8 + int(b[7])
		if r.below(10) == 0 {
			page = r.below(4000) - 1000
		}
		if r.below(10) == 0 {
			b[r.below(256)] ^= byte(r.below(256))
		}
		f, e := frame.Get(b, page)
		want, wantE := plainGet(b, page)
		wantErr(t, "Get", e, wantE)
		wantFrame(t, "Get", f, want)
		met[e]++
		if e == api.OK {
			wantPut(t, "Put of Get", f, b)
		}
	}
	for _, e := range []api.Errno{api.OK, api.ErrSum, api.ErrKind, api.ErrPage} {
		if met[e] < 50 {
			t.Error("the rule draws too few of error", int(e), met[e])
		}
	}
}

// changes: ways to change one to four bytes in a row, as what is turned over into each.
func changes() [][4]byte {
	out := [][4]byte{{255, 255, 255, 255}, {0, 255, 0, 0}, {1, 0, 0, 1}, {128, 0, 0, 128}, {0x82, 0xf6, 0x3b, 0x78}, {0x78, 0x3b, 0xf6, 0x82}}
	for i := range 32 {
		var c [4]byte
		c[i/8] = 1 << (i % 8)
		out = append(out, c)
	}
	for i := range 40 {
		out = append(out, [4]byte(run(4, uint32(i))))
	}
	return out
}

// changed is a page with c turned over into it from at on: all in the sum, or all behind it.
func changed(b []byte, at int, c [4]byte) []byte {
	end := min(at+4, len(b))
	if at < 4 {
		end = 4
	}
	out := bytes.Clone(b)
	for i := at; i < end; i++ {
		out[i] ^= c[i-at]
	}
	return out
}

// P4.5: bytes changed within four in a row, all in the sum, or all behind it, at each place.
func TestWhatIsNotWholeIsTold(t *testing.T) {
	r := draws(3)
	for range 6 {
		f := r.frame()
		b := plainPut(f)
		for at := range b {
			for _, c := range changes() {
				if bad := changed(b, at, c); !bytes.Equal(bad, b) {
					wantNoGet(t, fmt.Sprintf("changed at %d by %v", at, c), bad, f.Page, api.ErrSum)
				}
			}
		}
	}
}

// P4.5: a page of noughts is not whole, wherever it is.
func TestNoughtsAreNoPage(t *testing.T) {
	for _, page := range append(append([]int{}, pages...), badPages...) {
		wantNoGet(t, "noughts", make([]byte, api.PageSize), page, api.ErrSum)
	}
}

// P4.6: a page that Get takes at one place is ErrPage at any other one, near and far, and below 0.
func TestWhereItBelongs(t *testing.T) {
	r := draws(4)
	for range 20 {
		f := r.frame()
		b, e := frame.Put(f)
		wantErr(t, "Put", e, api.OK)
		for page := -3; page < api.MaxPages+3; page++ {
			got, e := frame.Get(b, page)
			if page == f.Page {
				wantErr(t, "where it belongs", e, api.OK)
				continue
			}
			wantErr(t, fmt.Sprint("page ", f.Page, " at ", page), e, api.ErrPage)
			wantNone(t, "elsewhere", got)
		}
		for _, page := range badPages {
			wantNoGet(t, "far off", b, page, api.ErrPage)
			wantNoGet(t, "further off", b, f.Page+page, api.ErrPage)
		}
	}
}

// R1, P4.2, P4.4: any bytes, with their sum set right or not, at any page.
func FuzzPage(f *testing.F) {
	f.Add([]byte{}, 0, false)
	f.Add(laid(3, 0, 258, 7, []byte("cat"))[4:], 258, true)
	f.Add(make([]byte, 256), 0, false)
	f.Add(laid(2, 1, 2048, 7, nil)[4:], 2048, true)
	f.Fuzz(func(t *testing.T, b []byte, page int, seal bool) {
		if seal {
			b = sealed(b)
		}
		got, e := frame.Get(b, page)
		want, wantE := plainGet(b, page)
		wantErr(t, "Get", e, wantE)
		wantFrame(t, "Get", got, want)
		if e == api.OK {
			wantPut(t, "Put of Get", got, b)
		}
	})
}
