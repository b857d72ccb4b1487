package freemap_test

import (
	"fmt"
	"slices"
	"testing"

	"incipit/api"
	"incipit/freemap"
)

// drawn is a map of so many pages amid a life, in which pages of each kind are.
func drawn(t *testing.T, r *draws, pages int) (*freemap.Map, *plain) {
	t.Helper()
	m, want := opened(t, pages, r.list(pages)...)
	for i := range 30 {
		act(t, fmt.Sprint("drawn, act ", i), r, m, want)
	}
	for range 6 {
		doFree(t, "drawn", m, want, r.below(pages))
		doAlloc(t, "drawn", m, want)
		doFree(t, "drawn", m, want, r.below(pages))
	}
	return m, want
}

// P8.4: Has and Mine of pages that there are not, near and far.
func TestPagesThatThereAreNot(t *testing.T) {
	for _, pages := range sizes {
		m, want := opened(t, pages, from(0, pages/2)...)
		for len(want.those(isFree)) > 0 {
			doRun(t, "all", m, want, len(want.those(isFree)))
		}
		for _, p := range append([]int{pages, pages + 1, pages + 64, pages + 1024, pages + api.MaxPages}, farPages...) {
			if m.Has(p) || m.Mine(p) {
				t.Errorf("of %d, page %d: Has %v, Mine %v", pages, p, m.Has(p), m.Mine(p))
			}
		}
		for p := range pages {
			if !m.Has(p) || m.Mine(p) != (p >= pages/2) {
				t.Fatalf("of %d, page %d: Has %v, Mine %v", pages, p, m.Has(p), m.Mine(p))
			}
		}
	}
}

// P8.4: what is told of each map of 8 pages.
func TestToldOfEachMap(t *testing.T) {
	for code := 0; code < 1<<16; code += 3 {
		m, want := eachKind(t, code)
		wantMap(t, fmt.Sprintf("map %x", code), m, want)
	}
}

// P8.4, R3: one may stop All at any point, and range again over the same iterator; ranging changes nothing.
func TestAllLeftAtEachPoint(t *testing.T) {
	r := draws(20)
	for _, pages := range []int{8, 9, 64, 65, 130, 200} {
		for range 5 {
			m, want := drawn(t, &r, pages)
			all, free := m.All(), want.those(isFree)
			for n := range len(free) + 1 {
				var got []int
				for p := range all {
					if len(got) == n {
						break
					}
					got = append(got, p)
				}
				if !slices.Equal(got, free[:n]) {
					t.Fatalf("left behind %d All has told %v, not %v", n, got, free[:n])
				}
				for range 2 {
					if got := slices.Collect(all); !slices.Equal(got, free) {
						t.Fatalf("behind one that was left All tells %v, not %v", got, free)
					}
				}
			}
			wantMap(t, "behind ranging", m, want)
		}
	}
}

// R3: an iterator that is told to stop tells nothing any more.
func TestStopIsHeeded(t *testing.T) {
	m, _ := opened(t, 200, 0, 1, 5, 64, 130)
	for stop := 1; stop <= 195; stop++ {
		told := 0
		m.All()(func(int) bool { told++; return told < stop })
		if told != stop {
			t.Errorf("All told %d, and was stopped at %d", told, stop)
		}
	}
}

// R3: All tells what was free when one began to range over it, whatever is done to the map meanwhile, at each point.
func TestChangedWhileOneRanges(t *testing.T) {
	r := draws(21)
	for _, pages := range []int{8, 9, 20, 65, 130} {
		first, plainFirst := drawn(t, &r, pages)
		for at := range len(plainFirst.those(isFree)) {
			for what, change := range map[string]func(m *freemap.Map, want *plain){
				"Alloc":       func(m *freemap.Map, want *plain) { doAlloc(t, "Alloc", m, want) },
				"all taken":   func(m *freemap.Map, want *plain) { takeAll(t, m, want) },
				"AllocRun":    func(m *freemap.Map, want *plain) { doRun(t, "AllocRun", m, want, 2) },
				"Free of all": func(m *freemap.Map, want *plain) { freeAll(t, m, want) },
				"Commit":      func(m *freemap.Map, want *plain) { doCommit(t, "Commit", m, want) },
				"Abort":       func(m *freemap.Map, want *plain) { doAbort(t, "Abort", m, want) },
				"Free and Commit": func(m *freemap.Map, want *plain) {
					freeAll(t, m, want)
					doCommit(t, "Commit", m, want)
				},
				"taken and Commit": func(m *freemap.Map, want *plain) {
					takeAll(t, m, want)
					doCommit(t, "Commit", m, want)
					freeAll(t, m, want)
				},
			} {
				m, want := first.Clone(), plainFirst.clone()
				before := want.those(isFree)
				var got []int
				for p := range m.All() {
					if len(got) >= at {
						change(m, want)
					}
					got = append(got, p)
				}
				if !slices.Equal(got, before) {
					t.Fatalf("%s at %d: All tells %v, not %v", what, at, got, before)
				}
				wantMap(t, what+" while one ranged", m, want)
			}
		}
	}
}

// takeAll takes all that is free.
func takeAll(t *testing.T, m *freemap.Map, want *plain) {
	t.Helper()
	for len(want.those(isFree)) > 0 {
		doAlloc(t, "all taken", m, want)
	}
}

// freeAll lets all go that is taken.
func freeAll(t *testing.T, m *freemap.Map, want *plain) {
	t.Helper()
	for _, p := range m.Taken() {
		wantErr(t, "all free", doFree(t, "all free", m, want, p), api.OK)
	}
}

// R3: acts that are drawn, between what All tells, and another All within it.
func TestLivesWhileOneRanges(t *testing.T) {
	r := draws(22)
	for range 200 {
		m, want := drawn(t, &r, 8+r.below(60))
		before := want.those(isFree)
		var got []int
		for p := range m.All() {
			got = append(got, p)
			within := want.those(isFree)
			var gotWithin []int
			for q := range m.All() {
				gotWithin = append(gotWithin, q)
				act(t, "within", &r, m, want)
			}
			if !slices.Equal(gotWithin, within) {
				t.Fatalf("the inner one tells %v, not %v", gotWithin, within)
			}
		}
		if !slices.Equal(got, before) {
			t.Fatalf("the outer one tells %v, not %v", got, before)
		}
		wantMap(t, "behind ranging", m, want)
	}
}

// R3: it is when one begins to range that counts, not when All was called.
func TestChangedAheadOfRanging(t *testing.T) {
	r := draws(23)
	m, want := drawn(t, &r, 70)
	all := m.All()
	for i := range 300 {
		act(t, fmt.Sprint("act ", i), &r, m, want)
		if got := slices.Collect(all); !slices.Equal(got, want.those(isFree)) {
			t.Fatalf("All tells %v, not %v", got, want.those(isFree))
		}
	}
}

// P8.4, R3: what Taken answers is its owner's: changed, it leaves the map, and other answers, as they were.
func TestTakenIsOfItsOwn(t *testing.T) {
	r := draws(24)
	for _, pages := range sizes {
		m, want := drawn(t, &r, pages)
		a, b := m.Taken(), m.Taken()
		for i := range a {
			a[i] = -5
		}
		a = append(a, 3, 4, 5)
		if !slices.Equal(b, want.taken()) {
			t.Fatal("two answers are one")
		}
		wantMap(t, "behind a change of Taken", m, want)
		doAbort(t, "Abort", m, want)
		wantMap(t, "behind a change of Taken, and Abort", m, want)
		if len(a) > 3 && a[0] != -5 {
			t.Fatal("the map has written to what it answered")
		}
	}
}

// P8.4: a clone is the same, of a map amid a transaction too: what is told of it, and what Abort and Commit make of it.
func TestClone(t *testing.T) {
	r := draws(25)
	for _, pages := range sizes {
		m, want := drawn(t, &r, pages)
		twin := m.Clone()
		if twin == m || twin == nil {
			t.Fatal("Clone answers no other map")
		}
		wantMap(t, "Clone", twin, want)
		wantMap(t, "what was cloned", m, want)
		back, plainBack := twin.Clone(), want.clone()
		doAbort(t, "Abort", back, plainBack)
		wantMap(t, "Clone behind Abort", back, plainBack)
		done, plainDone := twin.Clone(), want.clone()
		doCommit(t, "Commit", done, plainDone)
		wantMap(t, "Clone behind Commit", done, plainDone)
	}
}

// P8.4, R3: whichever is changed, the map, its clone or its clone's clone, also by Commit and Abort, leaves the others as they were.
func TestEachGoesItsOwnWay(t *testing.T) {
	r := draws(26)
	for range 60 {
		m, want := drawn(t, &r, 8+r.below(80))
		maps := []*freemap.Map{m, m.Clone(), m.Clone().Clone()}
		plains := []*plain{want, want.clone(), want.clone()}
		for i := range 60 {
			k := r.below(len(maps))
			act(t, fmt.Sprintf("act %d of map %d", i, k), &r, maps[k], plains[k])
			for j := range maps {
				wantMap(t, fmt.Sprintf("map %d behind act %d of map %d", j, i, k), maps[j], plains[j])
			}
		}
	}
	for _, first := range []int{0, 1} {
		m, want := drawn(t, &r, 40)
		maps, plains := []*freemap.Map{m, m.Clone()}, []*plain{want, want.clone()}
		other := 1 - first
		doCommit(t, "Commit", maps[first], plains[first])
		wantMap(t, "behind the other one's Commit", maps[other], plains[other])
		doAbort(t, "Abort", maps[other], plains[other])
		wantMap(t, "behind the other one's Abort", maps[first], plains[first])
		wantMap(t, "behind Abort", maps[other], plains[other])
		takeAll(t, maps[first], plains[first])
		freeAll(t, maps[other], plains[other])
		wantMap(t, "all taken", maps[first], plains[first])
		wantMap(t, "all let go", maps[other], plains[other])
	}
}
