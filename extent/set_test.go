package extent_test

import (
	"fmt"
	"math"
	"testing"

	"incipit/api"
	"incipit/extent"
)

// P7.1: sets of 1 to MaxPages pages may be, and are empty; of others ErrArg is answered, and no set.
func TestNew(t *testing.T) {
	for n := 1; n <= api.MaxPages; n++ {
		s := made(t, n)
		if s == nil || s.Size() != n || s.Len() != 0 || s.First(0) != -1 || s.Run(1) != -1 {
			t.Fatalf("New(%d) is no empty set of %d pages", n, n)
		}
	}
	for _, n := range sizes {
		wantSet(t, fmt.Sprint("New ", n), made(t, n), make(plain, n))
	}
	for _, n := range []int{0, -1, -2, -63, -64, -65, -api.MaxPages, api.MaxPages + 1, api.MaxPages + 64, 2 * api.MaxPages, 1 << 16, 1 << 31, 1 << 32, 1<<32 + 8, -1 << 31, -1<<32 + 8, math.MinInt, math.MinInt + 8, math.MaxInt} {
		if s, e := extent.New(n); s != nil || e != api.ErrArg {
			t.Errorf("New(%d) answers %v, %d", n, s, int(e))
		}
	}
}

// edges are the pages at the ends of a set, and of its words, that there are; and others near them that there are not.
func edges(size int) (there, not []int) {
	for _, p := range []int{0, 1, 62, 63, 64, 65, 127, 128, size - 65, size - 64, size - 63, size - 2, size - 1} {
		if p >= 0 && p < size {
			there = append(there, p)
		}
	}
	not = append(not, farPages...)
	for _, by := range []int{0, 1, 62, 63, 64, 65, 127, 128} {
		not = append(not, size+by, -1-by)
	}
	return there, not
}

// P7.1: each page is put in, found, not put in twice, taken out, and not taken out twice; the others stay as they were.
func TestAddAndDropOfEachPage(t *testing.T) {
	for _, size := range sizes {
		there, _ := edges(size)
		for _, m := range []plain{make(plain, size), full(size)} {
			for _, p := range there {
				s := madeAs(t, m)
				want := append(plain{}, m...)
				for range 2 {
					what := fmt.Sprintf("size %d: page %d", size, p)
					wantErr(t, what+": Add", s.Add(p), want.add(p))
					wantErr(t, what+": Add again", s.Add(p), api.ErrTwice)
					wantPages(t, what+" in it", s, want)
					wantErr(t, what+": Drop", s.Drop(p), want.drop(p))
					wantErr(t, what+": Drop again", s.Drop(p), api.ErrNone)
					wantPages(t, what+" not in it", s, want)
				}
			}
		}
	}
}

// P7.1: of pages that there are not ErrArg is answered, whether the set is empty or full; none is in it, and nothing has changed.
func TestPagesThatThereAreNot(t *testing.T) {
	for _, size := range sizes {
		_, not := edges(size)
		for _, m := range []plain{make(plain, size), full(size), plainOf(size, 0), plainOf(size, size-1)} {
			s := madeAs(t, m)
			for _, p := range not {
				what := fmt.Sprintf("size %d: page %d", size, p)
				wantErr(t, what+": Add", s.Add(p), api.ErrArg)
				wantErr(t, what+": Drop", s.Drop(p), api.ErrArg)
				if s.Has(p) {
					t.Fatalf("%s is in it", what)
				}
			}
			wantSet(t, fmt.Sprint("behind pages that there are not: ", size), s, m)
		}
	}
}

// P7.1, R2: an Add and a Drop that answer an error have changed nothing.
func TestErrorsChangeNothing(t *testing.T) {
	for bits := range 1 << 8 {
		m := plainBits(8, bits)
		s := madeAs(t, m)
		for p := range m {
			if m[p] {
				wantErr(t, "Add", s.Add(p), api.ErrTwice)
			} else {
				wantErr(t, "Drop", s.Drop(p), api.ErrNone)
			}
			wantSet(t, fmt.Sprintf("pages %v behind an error of page %d", m.pages(), p), s, m)
		}
		wantErr(t, "Add", s.Add(8), api.ErrArg)
		wantErr(t, "Drop", s.Drop(8), api.ErrArg)
		wantErr(t, "Add", s.Add(-1), api.ErrArg)
		wantErr(t, "Drop", s.Drop(-1), api.ErrArg)
		wantSet(t, "behind ErrArg", s, m)
	}
}

// P7.1: in whatever order pages come and go, they are in it that came last.
func TestAllInAndOut(t *testing.T) {
	for _, size := range sizes {
		s, m := made(t, size), make(plain, size)
		step := 7
		for size%step == 0 {
			step += 4 // so that each page is met once
		}
		for i := range size {
			p := i * step % size
			wantErr(t, "Add", s.Add(p), m.add(p))
			if s.Len() != i+1 {
				t.Fatalf("size %d: behind %d pages Len is %d", size, i+1, s.Len())
			}
		}
		wantSet(t, fmt.Sprint("all in: ", size), s, m)
		for i := range size {
			p := size - 1 - i*step%size
			wantErr(t, "Drop", s.Drop(p), m.drop(p))
			if s.Len() != size-1-i {
				t.Fatalf("size %d: without %d pages Len is %d", size, i+1, s.Len())
			}
		}
		wantSet(t, fmt.Sprint("all out: ", size), s, make(plain, size))
	}
}

// live leads a set through a life beside its plain one, and asks that each answer is the same.
func live(t *testing.T, r *draws, size, steps int) {
	t.Helper()
	s, m := made(t, size), make(plain, size)
	for i := range steps {
		p := r.below(size+4) - 2
		what := fmt.Sprintf("size %d, step %d, page %d", size, i, p)
		switch r.below(5) {
		case 0, 1:
			wantErr(t, what+": Add", s.Add(p), m.add(p))
		case 2:
			wantErr(t, what+": Drop", s.Drop(p), m.drop(p))
		case 3:
			if got, want := s.First(p), m.first(p); got != want {
				t.Fatalf("%s: First is %d, not %d", what, got, want)
			}
		default:
			if got, want := s.Run(p), m.run(p); got != want {
				t.Fatalf("%s: Run is %d, not %d", what, got, want)
			}
		}
		if s.Size() != size || s.Len() != len(m.pages()) || s.Has(p) != m.has(p) {
			t.Fatalf("%s: Size %d, Len %d, Has %v", what, s.Size(), s.Len(), s.Has(p))
		}
	}
	wantSet(t, fmt.Sprint("a life of ", size), s, m)
}

// P7.1, P7.2: over whole lives each answer is as by the chapter's words.
func TestLives(t *testing.T) {
	for seed := range 150 {
		r := draws(seed)
		live(t, &r, 1+r.below(20), 100)
		live(t, &r, 1+r.below(300), 400)
	}
	r := draws(1000)
	for _, size := range sizes {
		live(t, &r, size, 800)
	}
}

// R1, P7.1, P7.2: any life ends, and each answer is that of the chapter's words.
func FuzzLife(f *testing.F) {
	f.Add(uint32(1), uint16(130), uint8(50))
	f.Add(uint32(99), uint16(64), uint8(255))
	f.Fuzz(func(t *testing.T, seed uint32, size uint16, steps uint8) {
		r := draws(seed)
		live(t, &r, 1+int(size)%api.MaxPages, int(steps))
	})
}
