package frame_test

import (
	"bytes"
	"slices"
	"testing"

	"incipit/api"
	"incipit/frame"
)

// within answers b with other bytes ahead and behind it in one piece of memory, and a copy of all of it.
func within(b []byte) (all, part, was []byte) {
	all = append(append(bytes.Repeat([]byte{7}, 8), b...), bytes.Repeat([]byte{8}, 300)...)
	return all, all[8 : 8+len(b)], bytes.Clone(all)
}

// R3: Data that is handed in is as it was, and so is what stands behind it in the same memory.
func TestDataThatIsHandedInStays(t *testing.T) {
	for _, n := range append([]int{100}, append(badLongs, lengths...)...) {
		all, part, was := within(run(n, 5))
		f := api.Frame{Kind: 1, Page: 2, Epoch: 3, Data: part}
		frame.Check(f)
		frame.Put(f)
		frame.Same(f, f)
		frame.Same(f, api.Frame{Kind: 1, Page: 2, Epoch: 3, Data: append(bytes.Clone(part), 1)})
		wantBytes(t, "Data", all, was)
	}
}

// R3: bytes that are handed to Get and Want are as they were, and so are the kinds.
func TestBytesThatAreHandedInStay(t *testing.T) {
	broken := laid(1, 0, 2, 3, nil)
	broken[9] ^= 1
	for _, b := range [][]byte{nil, {1, 2, 3}, laid(1, 0, 2, 3, []byte{4}), laid(5, 0, 2, 3, nil), laid(1, 0, 3, 3, nil), broken, run(300, 6)} {
		all, part, was := within(b)
		kinds := []int{4, 4, 3, 1, 2, 1}
		frame.Get(part, 2)
		frame.Want(part, 2)
		frame.Want(part, 2, kinds...)
		wantBytes(t, "a page", all, was)
		if !slices.Equal(kinds, []int{4, 4, 3, 1, 2, 1}) {
			t.Error("the kinds were changed", kinds)
		}
	}
}

// turnAll turns each bit of b.
func turnAll(b []byte) {
	for i := range b {
		b[i] ^= 255
	}
}

// R3: a page that Put answered, and the Data that it was made of, do not change each other.
func TestPutsPageIsNobodysElse(t *testing.T) {
	for _, n := range []int{1, 100, api.Payload} {
		data := run(n, 7)
		f := api.Frame{Kind: 3, Page: 4, Epoch: 5, Data: data}
		want := plainPut(f)
		wantData := bytes.Clone(data)
		got, _ := frame.Put(f)
		again, _ := frame.Put(f)
		turnAll(data)
		wantBytes(t, "Put behind a change of Data", got, want)
		turnAll(data)
		turnAll(got)
		got = append(got, 1, 2, 3)
		wantBytes(t, "Data behind a change of the page", data, wantData)
		wantBytes(t, "another Put's page", again, want)
	}
}

// R3: a frame that Get or Want answered, and the page that it is of, do not change each other.
func TestGetsFrameIsNobodysElse(t *testing.T) {
	get := func(b []byte) api.Frame { f, _ := frame.Get(b, 4); return f }
	want := func(b []byte) api.Frame { f, _ := frame.Want(b, 4, 3); return f }
	for _, call := range []func([]byte) api.Frame{get, want} {
		data := run(api.Payload, 8)
		b := laid(3, 0, 4, 5, data)
		was := bytes.Clone(b)
		f, again := call(b), call(b)
		turnAll(b)
		wantBytes(t, "Data behind a change of the page", f.Data, data)
		turnAll(b)
		turnAll(f.Data)
		f.Data = append(f.Data, 1, 2, 3)
		wantBytes(t, "the page behind a change of Data", b, was)
		wantBytes(t, "another one's Data", again.Data, data)
	}
}

// R4: nil and empty are the same, of Data, of a page, of kinds.
func TestEmptyAndNilAreTheSame(t *testing.T) {
	f, g := api.Frame{Kind: 1, Page: 2}, api.Frame{Kind: 1, Page: 2, Data: []byte{}}
	wantErr(t, "Check", frame.Check(f), frame.Check(g))
	wantPut(t, "Put of nil", f, plainPut(f))
	wantPut(t, "Put of none", g, plainPut(f))
	wantNoGet(t, "Get of nil", nil, 2, api.ErrArg)
	wantNoGet(t, "Get of none", []byte{}, 2, api.ErrArg)
	_, e1 := frame.Want(plainPut(f), 2, nil...)
	_, e2 := frame.Want(plainPut(f), 2, []int{}...)
	wantErr(t, "Want", e1, e2)
}

// R6: the same calls answer the same, also when other calls stand between them.
func TestTheSameCallsAnswerTheSame(t *testing.T) {
	r := draws(6)
	f := r.frame()
	b := plainPut(f)
	want, _ := plainGet(b, f.Page)
	for range 3 {
		wantPut(t, "Put", f, b)
		wantGet(t, "Get", b, f.Page, want)
		wantNoGet(t, "Get elsewhere", b, f.Page+1, api.ErrPage)
		wantNoPut(t, "Put of none", api.Frame{Kind: 9}, api.ErrKind)
		if frame.Name(2) != "map" || !frame.Same(f, want) {
			t.Error("Name, Same")
		}
	}
}

// THE BOUND: long Data, and many kinds, are gone over once.
func TestLongThingsInTime(t *testing.T) {
	const n = 1 << 22
	f := api.Frame{Kind: 1, Data: make([]byte, n)}
	g := api.Frame{Kind: 1, Data: append(make([]byte, n), 1)}
	wantSame(t, "long", f, api.Frame{Kind: 1}, true)
	wantSame(t, "long", f, g, false)
	wantNoPut(t, "long", f, api.ErrLong)
	wantNoGet(t, "long", f.Data, 0, api.ErrArg)
	kinds := append(make([]int, n), 1)
	_, e := frame.Want(plainPut(api.Frame{Kind: 1}), 0, kinds...)
	wantErr(t, "Want among many", e, api.OK)
}
