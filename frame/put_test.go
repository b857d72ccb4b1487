package frame_test

import (
	"fmt"
	"testing"

	"incipit/api"
	"incipit/frame"
)

// P4.1: what may be is OK: each kind, pages at both ends, Data of none to Payload bytes.
func TestCheckTakesWhatMayBe(t *testing.T) {
	for kind := 1; kind <= 4; kind++ {
		for _, page := range pages {
			for _, n := range lengths {
				f := api.Frame{Kind: kind, Page: page, Data: make([]byte, n)}
				wantErr(t, fmt.Sprint("Check ", kind, page, n), frame.Check(f), api.OK)
			}
			wantErr(t, "nil", frame.Check(api.Frame{Kind: kind, Page: page}), api.OK)
		}
	}
}

// P4.1: a kind that is none, a page that is none, too much to bear.
func TestOneWrongThing(t *testing.T) {
	for _, kind := range badKinds {
		wantNoPut(t, fmt.Sprint("kind ", kind), api.Frame{Kind: kind, Page: 3, Data: []byte{1}}, api.ErrKind)
	}
	for kind := 1; kind <= 4; kind++ {
		for _, page := range badPages {
			wantNoPut(t, fmt.Sprint("page ", page), api.Frame{Kind: kind, Page: page, Data: []byte{1}}, api.ErrPage)
		}
		for _, n := range badLongs {
			wantNoPut(t, fmt.Sprint("length ", n), api.Frame{Kind: kind, Page: 3, Data: run(n, 1)}, api.ErrLong)
			wantNoPut(t, fmt.Sprint("noughts ", n), api.Frame{Kind: kind, Page: 3, Data: make([]byte, n)}, api.ErrLong)
		}
	}
}

// P4.1, R2: of two or three wrong things the one that the chapter names first is told.
func TestTheFirstWrongThingIsTold(t *testing.T) {
	for _, kind := range badKinds {
		for _, page := range badPages {
			wantNoPut(t, "kind, page", api.Frame{Kind: kind, Page: page}, api.ErrKind)
			wantNoPut(t, "all three", api.Frame{Kind: kind, Page: page, Data: make([]byte, 241)}, api.ErrKind)
		}
		wantNoPut(t, "kind, length", api.Frame{Kind: kind, Page: 3, Data: make([]byte, 241)}, api.ErrKind)
	}
	for _, page := range badPages {
		for kind := 1; kind <= 4; kind++ {
			wantNoPut(t, "page, length", api.Frame{Kind: kind, Page: page, Data: make([]byte, 241)}, api.ErrPage)
		}
	}
}

// P4.1: the zero frame is none.
func TestTheZeroFrame(t *testing.T) {
	wantNoPut(t, "zero", api.Frame{}, api.ErrKind)
}

// The form: the chapter's example.
func TestTheExample(t *testing.T) {
	want := append([]byte{2, 0, 0, 5, 0, 0, 0, 0, 0, 0, 0, 1, 7, 8}, make([]byte, 238)...)
	wantPut(t, "the example", api.Frame{Kind: api.KindMap, Page: 5, Epoch: 1, Data: []byte{7, 8}}, sealed(want))
}

// The form: a page byte by byte, written out, its sum worked out elsewhere.
func TestAPageWrittenOut(t *testing.T) {
	want := make([]byte, 256)
	copy(want, []byte{0xfe, 0x72, 0x42, 0xb7, 3, 0, 7, 255, 1, 2, 3, 4, 5, 6, 7, 8, 'c', 'a', 't'})
	wantPut(t, "written out", api.Frame{Kind: api.KindLeaf, Page: 2047, Epoch: 0x0102030405060708, Data: []byte("cat")}, want)
}

// P4.1: each byte of the page, of all kinds, with small and great numbers.
func TestPutOfEachEdge(t *testing.T) {
	for kind := 1; kind <= 4; kind++ {
		for _, page := range pages {
			for _, epoch := range epochs {
				for _, n := range lengths {
					f := api.Frame{Kind: kind, Page: page, Epoch: epoch, Data: run(n, uint32(page))}
					wantPut(t, fmt.Sprint("Put ", kind, page, epoch, n), f, plainPut(f))
				}
			}
		}
	}
}

// P4.1: each of a page's numbers has its own two bytes.
func TestPutOfEachPage(t *testing.T) {
	for page := range api.MaxPages {
		f := api.Frame{Kind: 1, Page: page}
		got, e := frame.Put(f)
		wantErr(t, "Put", e, api.OK)
		if len(got) != 256 || int(got[6])<<8+int(got[7]) != page {
			t.Fatalf("page %d: %v", page, got)
		}
	}
}

// P4.1: Data of each length, and noughts behind it up to the page's end, also where memory behind Data holds something.
func TestNoughtsBehindData(t *testing.T) {
	for n := range api.Payload + 1 {
		all := run(300, uint32(n))
		f := api.Frame{Kind: 4, Page: 9, Epoch: 7, Data: all[:n]}
		got, e := frame.Put(f)
		wantErr(t, "Put", e, api.OK)
		if len(got) != 256 {
			t.Fatalf("length %d: a page of %d bytes", n, len(got))
		}
		wantBytes(t, "Data", got[16:16+n], all[:n])
		wantBytes(t, "noughts", got[16+n:], make([]byte, api.Payload-n))
	}
}

// P4.3: each kind's name, and none of another one.
func TestName(t *testing.T) {
	for kind, want := range map[int]string{1: "head", 2: "map", 3: "leaf", 4: "inner"} {
		if got := frame.Name(kind); got != want {
			t.Errorf("Name(%d) is %q, not %q", kind, got, want)
		}
	}
	for _, kind := range badKinds {
		if got := frame.Name(kind); got != "" {
			t.Errorf("Name(%d) is %q", kind, got)
		}
	}
}
