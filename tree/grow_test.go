package tree_test

import (
	"fmt"
	"slices"
	"testing"

	"incipit/api"
)

// orders are those in which keys are put and deleted.
func orders(n int) map[string][]int {
	rising := make([]int, n)
	for i := range rising {
		rising[i] = i
	}
	falling := slices.Clone(rising)
	slices.Reverse(falling)
	r := draws(4711)
	drawn := r.order(n)
	return map[string][]int{"rising": rising, "falling": falling, "drawn": drawn}
}

// P11.2, P11.4, P11.5: trees that grow from nothing and shrink to nothing again, right behind each step.
func TestGrowAndShrink(t *testing.T) {
	single := sort{"single bytes", func(i int) []byte { return []byte{byte(i)} }, noVal, 2, 256}
	for _, s := range append([]sort{single}, sorts...) {
		for put, puts := range orders(s.many) {
			for gone, deletes := range orders(s.many) {
				what := fmt.Sprintf("%s, put %s, deleted %s", s.name, put, gone)
				t.Run(what, func(t *testing.T) {
					t.Parallel()
					growAndShrink(t, what, s, puts, deletes)
				})
			}
		}
	}
}

func growAndShrink(t *testing.T, what string, s sort, puts, deletes []int) {
	b := empty(t, 1500, 16)
	b.what = what
	for _, i := range puts {
		wantErr(t, what, b.put(s.key(i), s.val(i)), api.OK)
		b.right("Put")
		b.get(s.key(i))
	}
	b.told("all Puts")
	b.getAll()
	if _, height := b.x.Root(); height < s.height {
		t.Errorf("%s: the height is %d", what, height)
	}
	for _, i := range deletes {
		wantErr(t, what, b.delete(s.key(i)), api.OK)
		b.right("Delete")
		b.get(s.key(i))
	}
	if root, height := b.x.Root(); root != 0 || height != 0 || len(b.p.Taken()) != 2+len(b.p.Maps()) {
		t.Errorf("%s: nothing is left, but the root is %d, the height %d, and %v are taken", what, root, height, b.p.Taken())
	}
}
