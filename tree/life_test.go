package tree_test

import (
	"fmt"
	"testing"

	"incipit/api"
	"incipit/pager"
)

// step does one act that is drawn, and answers the tree that goes on: another one behind Abort, ErrFull and Open.
func (b *both) step(r *draws) *both {
	b.t.Helper()
	key, val := r.text(0, 26), r.text(0, 25)
	if r.below(3) > 0 {
		key = r.text(1, 2) // which is often there
	}
	if r.below(8) == 0 {
		val = []byte{}
	}
	e := api.OK
	switch k := r.below(64); {
	case k < 30:
		e = b.put(key, val)
	case k < 52:
		e = b.delete(b.some(r, key))
	case k < 59:
		b.get(b.some(r, key))
	case k < 61:
		e = b.commit()
	case k < 62:
		return b.undone()
	case k < 63:
		p, e := pager.Open(b.d, 2+r.below(6))
		wantErr(b.t, b.what+": Open", e, api.OK)
		return b.anew(p, b.last)
	}
	if e == api.ErrFull {
		return b.undone()
	}
	return b
}

// some is a key, often one that is there.
func (b *both) some(r *draws, key []byte) []byte {
	if r.below(2) == 0 || len(b.m) == 0 {
		return key
	}
	root, height := b.x.Root()
	pairs := readTree(b.p, root, height).pairs
	return pairs[r.below(len(pairs))].Key
}

// P11.2, P11.4, P11.5: drawn lives, with commits, aborts and openings: each answer as a plain map's, the tree right behind each step.
func TestLives(t *testing.T) {
	t.Parallel()
	for seed := range 60 {
		r := draws(seed * 7)
		b := empty(t, []int{8, 12, 20, 40, 100, 300}[seed%6], 2+r.below(10))
		b.what = fmt.Sprint("seed ", seed)
		for n := range 700 {
			b = b.step(&r)
			b.right("a step")
			if n%50 == 0 {
				b.told("steps")
				b.getAll()
			}
		}
	}
}

// Each byte is an act, or what one needs: as a plain map, whatever they are.
func FuzzLife(f *testing.F) {
	f.Add(uint8(8), []byte{0, 3, 1, 9, 200, 7, 255, 31, 4})
	f.Add(uint8(90), []byte("put, delete, get, commit, abort and all of it again"))
	f.Fuzz(func(t *testing.T, pages uint8, acts []byte) {
		b := empty(t, 8+int(pages), 2+int(pages)%7)
		for i, a := range acts[:min(len(acts), 300)] {
			r := draws(uint32(a)*7919 + uint32(i)*31)
			b = b.step(&r)
			b.right("a step")
		}
		b.told("all steps")
		b.getAll()
	})
}

// Whatever stands on pages that are framed as nodes: no call panics, and each ends.
func FuzzPages(f *testing.F) {
	f.Add([]byte{1, 0, 3, 1, 98, 0, 4}, []byte{1, 0, 5, 1, 98, 0, 5}, []byte{1, 1, 97, 1, 7}, []byte("b"))
	f.Add([]byte{1, 0, 3, 1, 98, 0, 3}, []byte{1, 0, 4, 1, 98, 0, 4}, []byte{0}, []byte("a"))
	f.Fuzz(func(t *testing.T, first, second, third, key []byte) {
		_, p := formatted(t, 20, 2)
		for _, bears := range [][]byte{first, second, third} {
			for _, kind := range []int{api.KindInner, api.KindLeaf} {
				p.New(kind, bears)
			}
		}
		for root := 2; root < 10; root++ {
			for height := 1; height <= 8; height++ {
				x := at(t, p, root, height)
				x.Get(key)
				x.Pages()
				for page, n := range x.Nodes() {
					if page < 2 || len(n.Keys)+len(n.Pairs)+len(n.Kids) > 255 {
						t.Fatal("Nodes tells", page, n)
					}
				}
				x.Put(key, key)
				x.Delete(key)
			}
		}
	})
}
