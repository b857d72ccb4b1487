package freemap_test

import (
	"math"
	"slices"
	"testing"

	"incipit/api"
	"incipit/freemap"
)

// notMade are maps that no call made.
func notMade() []*freemap.Map {
	var zero freemap.Map
	refused, _ := freemap.Open(7, nil)
	return []*freemap.Map{nil, {}, new(freemap.Map), &zero, refused, (*freemap.Map)(nil).Clone(), new(freemap.Map).Clone()}
}

// P8.4, R5: of a map that no call made calls with an error answer ErrMade, also where another error would apply; all others false, 0, nothing, nil.
func TestMapsThatNoCallMade(t *testing.T) {
	for i, m := range notMade() {
		for range 2 { // the calls have made nothing of it
			if p, e := m.Alloc(); p != 0 || e != api.ErrMade {
				t.Errorf("map %d: Alloc answers %d, %d", i, p, int(e))
			}
			for _, n := range append([]int{0, 1, 2, 7, 8, 1024}, farPages...) {
				if p, e := m.AllocRun(n); p != 0 || e != api.ErrMade {
					t.Errorf("map %d: AllocRun(%d) answers %d, %d", i, n, p, int(e))
				}
				wantErr(t, "Free", m.Free(n), api.ErrMade)
				if m.Has(n) || m.Mine(n) {
					t.Errorf("map %d, page %d: %v, %v", i, n, m.Has(n), m.Mine(n))
				}
			}
			wantErr(t, "Commit", m.Commit(), api.ErrMade)
			wantErr(t, "Abort", m.Abort(), api.ErrMade)
			if m.Avail() != 0 || m.Held() != 0 || len(m.Taken()) != 0 || m.Clone() != nil {
				t.Errorf("map %d: %d, %d, %v, %v", i, m.Avail(), m.Held(), m.Taken(), m.Clone())
			}
			all := m.All()
			for range 2 {
				for p := range all {
					t.Errorf("map %d: All tells %d", i, p)
				}
			}
		}
	}
}

// R1: no call panics, and each ends, at whatever numbers.
func TestFarNumbers(t *testing.T) {
	numbers := append([]int{0, 1, 7, 8, 63, 64, 65, 1023, 1024, 1025, math.MaxInt32, math.MinInt32, math.MaxUint32}, farPages...)
	numbers = append(numbers, noSizes...)
	for _, n := range numbers {
		for _, k := range numbers {
			for _, i := range numbers {
				b, e := freemap.Put(n, []int{k}, i)
				right := plainNeed(n) > 0 && k >= 0 && k < n && i >= 0 && i < plainNeed(n)
				if (e == api.OK) != right || (b != nil) != right {
					t.Fatalf("Put(%d, %d, %d) answers %v, %d", n, k, i, b, int(e))
				}
			}
			m, e := freemap.Open(n, []int{k})
			if right := plainNeed(n) > 0 && k >= 0 && k < n; (e == api.OK) != right || (m != nil) != right {
				t.Fatalf("Open(%d, %d) answers %v, %d", n, k, m, int(e))
			}
		}
	}
	m, want := opened(t, 65, 0, 1, 64)
	for _, n := range numbers {
		doRun(t, "far", m, want, n)
		doFree(t, "far", m, want, n)
		wantMap(t, "far", m, want)
	}
}

// R3: maps share nothing with each other, though one list was handed in for both.
func TestMapsOfTheirOwn(t *testing.T) {
	l := []int{0, 3, 9}
	a, plainA := opened(t, 20, l...)
	b, plainB := opened(t, 20, l...)
	freeAll(t, a, plainA)
	takeAll(t, a, plainA)
	doCommit(t, "Commit", a, plainA)
	wantMap(t, "the other one", b, plainB)
	doAlloc(t, "Alloc", b, plainB)
	doAbort(t, "Abort", b, plainB)
	wantMap(t, "the one", a, plainA)
	wantMap(t, "the other one", b, plainB)
}

// R4: empty and nil lists are the same.
func TestEmptyAndNil(t *testing.T) {
	a, e := freemap.Open(9, nil)
	wantErr(t, "Open", e, api.OK)
	b, e := freemap.Open(9, []int{})
	wantErr(t, "Open", e, api.OK)
	wantMap(t, "nil", a, plainOpen(9, nil))
	wantMap(t, "empty", b, plainOpen(9, nil))
	for _, l := range [][][]byte{nil, {}} {
		noGet(t, "no pages", api.ErrMap, 9, l...)
	}
	for _, page := range [][]byte{nil, {}} {
		noGet(t, "a page without bytes", api.ErrMap, 9, page)
	}
}

// R6: the same calls answer the same, also when other calls stand between them.
func TestTheSameCallsAnswerTheSame(t *testing.T) {
	m, _ := opened(t, 16, 0, 1, 4, 9)
	for range 3 {
		if p, e := m.AllocRun(4); p != 5 || e != api.OK {
			t.Error("AllocRun", p, e)
		}
		if p, e := m.Alloc(); p != 2 || e != api.OK {
			t.Error("Alloc", p, e)
		}
		wantErr(t, "Free", m.Free(9), api.OK)
		wantErr(t, "Free", m.Free(9), api.ErrNone)
		if p, e := m.AllocRun(7); p != 0 || e != api.ErrFull {
			t.Error("AllocRun", p, e)
		}
		if !slices.Equal(m.Taken(), []int{0, 1, 2, 4, 5, 6, 7, 8}) || !slices.Equal(freeOf(m), []int{3, 10, 11, 12, 13, 14, 15}) || m.Held() != 1 {
			t.Error("told", m.Taken(), freeOf(m), m.Held())
		}
		m.Clone().Commit()
		wantErr(t, "Abort", m.Abort(), api.OK)
	}
}
