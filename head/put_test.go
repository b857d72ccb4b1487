package head_test

import (
	"bytes"
	"fmt"
	"testing"

	"incipit/api"
	"incipit/frame"
	"incipit/head"
)

// The form: the chapter's example, byte by byte, and where it stands.
func TestTheExample(t *testing.T) {
	h := api.Head{Epoch: 9, Pages: 64, Maps: []int{2}, User: []byte{7}}
	b, e := head.Put(h)
	wantErr(t, "Put", e, api.OK)
	wantBytes(t, "the example", b, padded([]byte{0, 64, 1, 0, 2, 1, 7}, api.Payload))
	wantGet(t, "the example", b, h)
	if head.Page(h.Epoch) != 1 {
		t.Error("the example does not stand on page 1")
	}
}

// The form: heads at their edges, written out byte by byte.
func TestHeadsWrittenOut(t *testing.T) {
	user := bytes.Repeat([]byte{255}, api.MaxUser)
	rows := []struct {
		h    api.Head
		want []byte
	}{
		{api.Head{Pages: 8, Maps: []int{7}}, []byte{0, 8, 1, 0, 7}},
		{api.Head{Epoch: 1 << 63, Pages: 1024, Maps: []int{1023}, User: []byte{0}}, []byte{4, 0, 1, 3, 255, 1, 0}},
		{api.Head{Epoch: 5, Pages: 1025, Maps: []int{1024, 2}}, []byte{4, 1, 2, 4, 0, 0, 2}},
		{api.Head{Epoch: 1<<64 - 1, Pages: 2048, Maps: []int{258, 2047}, User: []byte("cat")}, []byte{8, 0, 2, 1, 2, 7, 255, 3, 'c', 'a', 't'}},
		{api.Head{Pages: 2047, Maps: []int{3, 2}, User: user}, append([]byte{7, 255, 2, 0, 3, 0, 2, 32}, user...)},
	}
	for _, row := range rows {
		b, e := head.Put(row.h)
		wantErr(t, "Put", e, api.OK)
		wantBytes(t, fmt.Sprint("Put of ", row.h), b, padded(row.want, api.Payload))
		wantGet(t, "Get", padded(row.want, api.Payload), row.h)
	}
}

// The form: a head's page byte by byte, written out, its sum worked out elsewhere.
func TestAPageWrittenOut(t *testing.T) {
	want := make([]byte, api.PageSize)
	copy(want, []byte{0x6e, 0x95, 0x1a, 0xdf, 1, 0, 0, 1, 0, 0, 0, 0, 0, 0, 0, 9, 0, 64, 1, 0, 2, 1, 7})
	got, e := head.Lay(api.Head{Epoch: 9, Pages: 64, Maps: []int{2}, User: []byte{7}})
	wantErr(t, "Lay", e, api.OK)
	wantBytes(t, "written out", got, want)
}

// P6.1: what a page bears is a page's load, of heads with one map and with two, without a User and with one of each length.
func TestPutOfEachEdge(t *testing.T) {
	for _, pages := range sizes {
		for n := range api.MaxUser + 1 {
			h := plainHead(9, pages, run(n, uint32(pages))...)
			b, e := head.Put(h)
			wantErr(t, "Put", e, api.OK)
			if len(b) != api.Payload {
				t.Fatalf("Put of %v has %d bytes", h, len(b))
			}
			wantBytes(t, fmt.Sprint("Put of ", h), b, plainPut(h))
		}
	}
}

// P6.1: each number of pages, and each place of a map, has its own two bytes.
func TestPutOfEachPage(t *testing.T) {
	for pages := api.MinPages; pages <= api.MaxPages; pages++ {
		h := plainHead(9, pages)
		h.Maps[0] = pages - 1
		wantMayBe(t, fmt.Sprint("pages ", pages), h)
	}
	for m := 2; m < api.MaxPages; m++ {
		for _, maps := range [][]int{{m, 2 + m%2046}, {2 + m%2046, m}} {
			if maps[0] != maps[1] {
				wantMayBe(t, fmt.Sprint("maps ", maps), api.Head{Pages: api.MaxPages, Maps: maps})
			}
		}
	}
}

// P6.1: what a page bears does not say its epoch.
func TestPutOfEpochs(t *testing.T) {
	want := plainPut(plainHead(0, 64, 7))
	for _, epoch := range epochs {
		b, e := head.Put(plainHead(epoch, 64, 7))
		wantErr(t, "Put", e, api.OK)
		wantBytes(t, "Put", b, want)
		wantGet(t, "Get", want, plainHead(epoch, 64, 7))
	}
}

// P6.2: a head of an even epoch stands on page 0, one of an odd epoch on page 1.
func TestPage(t *testing.T) {
	for _, epoch := range append([]uint64{3, 4, 5, 1<<32 + 1, 1<<63 + 1, 1<<53 + 1}, epochs...) {
		want := 0
		if epoch&1 == 1 {
			want = 1
		}
		if got := head.Page(epoch); got != want {
			t.Errorf("Page(%d) is %d", epoch, got)
		}
	}
}

// P6.2: a head's page is frame.Put of its frame.
func TestLay(t *testing.T) {
	for _, pages := range sizes {
		for _, epoch := range epochs {
			for _, n := range lengths {
				h := plainHead(epoch, pages, run(n, uint32(pages))...)
				want, e := frame.Put(api.Frame{Kind: api.KindHead, Page: int(epoch & 1), Epoch: epoch, Data: plainPut(h)})
				wantErr(t, "frame.Put", e, api.OK)
				got, e := head.Lay(h)
				wantErr(t, "Lay", e, api.OK)
				wantBytes(t, fmt.Sprint("Lay of ", h), got, want)
				if len(got) != api.PageSize {
					t.Fatalf("Lay of %v has %d bytes", h, len(got))
				}
			}
		}
	}
}

// P6.2: Check's error, whatever is wrong.
func TestLayOfHeadsThatMayNotBe(t *testing.T) {
	for _, epoch := range epochs {
		for _, h := range []api.Head{{}, {Pages: 7, Maps: []int{2}}, {Pages: 2049, Maps: []int{2, 3}}, {Pages: 64}, {Pages: 64, Maps: []int{2, 3}}, {Pages: 64, Maps: []int{1}}, {Pages: 64, Maps: []int{64}}, {Pages: 1025, Maps: []int{2}}, {Pages: 1025, Maps: []int{2, 2}}, {Pages: 64, Maps: []int{2}, User: make([]byte, 33)}} {
			h.Epoch = epoch
			wantMayNotBe(t, fmt.Sprint(h), h)
		}
	}
}
