package frame_test

import (
	"bytes"
	"math"
	"testing"

	"incipit/api"
	"incipit/frame"
)

// wantSame asks in both directions, and of each frame with itself.
func wantSame(t *testing.T, what string, a, b api.Frame, want bool) {
	t.Helper()
	if frame.Same(a, b) != want || frame.Same(b, a) != want {
		t.Errorf("%s: Same of %v and %v is not %v", what, a, b, want)
	}
	if !frame.Same(a, a) || !frame.Same(b, b) {
		t.Errorf("%s: a frame is not the same as itself", what)
	}
}

// P4.1: frames that differ in one field.
func TestSameOfOtherFields(t *testing.T) {
	f := api.Frame{Kind: 3, Page: 258, Epoch: 1<<40 + 3, Data: []byte{7, 8, 9}}
	twin := f
	twin.Data = bytes.Clone(f.Data)
	wantSame(t, "twins", f, twin, true)
	for _, kind := range []int{1, 2, 4, 0, -3, 259, 3 + 1<<32} {
		g := f
		g.Kind = kind
		wantSame(t, "kind", f, g, false)
	}
	for _, page := range []int{257, 259, 2, 0, -258, 258 + 1<<16, 258 + 1<<32} {
		g := f
		g.Page = page
		wantSame(t, "page", f, g, false)
	}
	for _, epoch := range []uint64{0, 3, 1<<40 + 2, 1<<40 + 4, 1<<40 + 3 + 1<<63, math.MaxUint64} {
		g := f
		g.Epoch = epoch
		wantSame(t, "epoch", f, g, false)
	}
}

// P4.1: a byte of Data that differs, at each place, and one more that is no nought.
func TestSameOfOtherData(t *testing.T) {
	for _, n := range []int{1, 2, 64, api.Payload - 1, api.Payload} {
		f := api.Frame{Kind: 1, Data: run(n, 2)}
		for at := range n {
			g := f
			g.Data = bytes.Clone(f.Data)
			g.Data[at] ^= 16
			wantSame(t, "a byte", f, g, false)
		}
	}
	f := api.Frame{Kind: 1, Data: []byte{7, 8}}
	for _, data := range [][]byte{nil, {7}, {8, 7}, {0, 7, 8}, {7, 0, 8}, {7, 8, 1}, {7, 8, 0, 1}, {7, 8, 0, 0, 0, 255}} {
		wantSame(t, "other bytes", f, api.Frame{Kind: 1, Data: data}, false)
	}
}

// P4.1: noughts at the end of either, of both, of none make no difference; nor do Data that are noughts alone.
func TestSameButForNoughts(t *testing.T) {
	for _, n := range []int{0, 1, 3, 100, api.Payload - 1, api.Payload} {
		data := bytes.Repeat([]byte{5}, n)
		for _, more := range []int{0, 1, 2, 16, api.Payload, 500} {
			for _, less := range []int{0, 1, 7, api.Payload, 500} {
				a := api.Frame{Kind: 2, Page: 4, Epoch: 6, Data: append(bytes.Clone(data), make([]byte, more)...)}
				b := api.Frame{Kind: 2, Page: 4, Epoch: 6, Data: append(bytes.Clone(data), make([]byte, less)...)}
				wantSame(t, "noughts", a, b, true)
				b.Data = append(b.Data, 1)
				wantSame(t, "a byte behind noughts", a, b, false)
			}
		}
	}
}

// P4.1, R4: nil and empty Data are the same.
func TestSameOfNilAndEmpty(t *testing.T) {
	wantSame(t, "zero frames", api.Frame{}, api.Frame{}, true)
	wantSame(t, "nil and empty", api.Frame{Kind: 1}, api.Frame{Kind: 1, Data: []byte{}}, true)
	wantSame(t, "nil and noughts", api.Frame{Kind: 1}, api.Frame{Kind: 1, Data: make([]byte, 240)}, true)
	wantSame(t, "nil and a byte", api.Frame{Kind: 1}, api.Frame{Kind: 1, Data: []byte{0, 1}}, false)
}

// P4.1: frames that Check refuses are held against each other by the same words.
func TestSameOfFramesThatMayNotBe(t *testing.T) {
	for _, kind := range badKinds {
		for _, page := range badPages {
			f := api.Frame{Kind: kind, Page: page, Epoch: 1, Data: []byte{1, 0}}
			g := api.Frame{Kind: kind, Page: page, Epoch: 1, Data: []byte{1}}
			wantSame(t, "no kind, no page", f, g, true)
			g.Page++
			wantSame(t, "no kind, another page", f, g, false)
		}
	}
	for _, n := range append([]int{479, 480, 481, 719, 720, 721}, badLongs...) {
		f := api.Frame{Kind: 1, Data: run(n, 3)}
		f.Data[n-1] = 9
		g := f
		g.Data = append(bytes.Clone(f.Data), 0, 0, 0)
		wantSame(t, "long", f, g, true)
		for _, at := range []int{0, 239, 240, n - 2, n - 1} {
			g.Data[at] ^= 1
			wantSame(t, "long, with another byte", f, g, false)
			g.Data[at] ^= 1
		}
		g.Data[n+2] = 1
		wantSame(t, "long, with one more", f, g, false)
		g.Data = bytes.Clone(f.Data[:n-1])
		wantSame(t, "long, with one less", f, g, false)
	}
}

// P4.1: pairs of frames drawn near each other are the same just where the chapter's words say so.
func TestSameAsTheWords(t *testing.T) {
	r := draws(5)
	met := [2]int{}
	for range 20_000 {
		a := api.Frame{Kind: r.below(2), Page: r.below(2), Epoch: uint64(r.below(2))}
		b := api.Frame{Kind: r.below(2), Page: r.below(2), Epoch: uint64(r.below(2))}
		for range r.below(4) {
			a.Data = append(a.Data, byte(r.below(2)))
		}
		for range r.below(4) {
			b.Data = append(b.Data, byte(r.below(2)))
		}
		want := plainSame(a, b)
		wantSame(t, "drawn", a, b, want)
		if want {
			met[1]++
		} else {
			met[0]++
		}
	}
	if met[0] < 100 || met[1] < 100 {
		t.Error("the rule draws too few of one sort", met)
	}
}
