package freemap_test

import (
	"fmt"
	"slices"
	"testing"

	"incipit/api"
	"incipit/freemap"
)

// witness is what a map told when its transaction began: all that is needed to ask for what follows, without a model.
type witness struct {
	m     *freemap.Map
	pages int
	begun []int // Taken behind the last Commit, or Open
}

// tookOnlyFree asks that what was handed out was free, and not taken when the transaction began.
func (w *witness) tookOnlyFree(t *testing.T, first, n int, free []int) {
	t.Helper()
	for p := first; p < first+n; p++ {
		if slices.Contains(w.begun, p) || !slices.Contains(free, p) {
			t.Fatalf("page %d was handed out: taken behind the last Commit were %v, free were %v", p, w.begun, free)
		}
		if !w.m.Has(p) || !w.m.Mine(p) {
			t.Fatalf("page %d was handed out: Has %v, Mine %v", p, w.m.Has(p), w.m.Mine(p))
		}
	}
}

// parts asks that taken, held and free pages are all, each page one of them: what is neither taken nor free was taken when the transaction began.
func (w *witness) parts(t *testing.T) {
	t.Helper()
	taken, free := w.m.Taken(), freeOf(w.m)
	held := 0
	for p := range w.pages {
		isTaken, isFree := slices.Contains(taken, p), slices.Contains(free, p)
		if isTaken && isFree || isTaken != w.m.Has(p) {
			t.Fatalf("page %d: in Taken %v, in All %v, Has %v", p, isTaken, isFree, w.m.Has(p))
		}
		if !isTaken && !isFree {
			held++
			if !slices.Contains(w.begun, p) {
				t.Fatalf("page %d is neither taken nor free, and was not taken ahead of the transaction", p)
			}
		}
		if w.m.Mine(p) != (isTaken && !slices.Contains(w.begun, p)) {
			t.Fatalf("page %d: Mine is %v", p, w.m.Mine(p))
		}
	}
	if w.m.Held() != held || w.m.Avail() != len(free) || len(taken)+len(free)+held != w.pages {
		t.Fatalf("of %d pages %d are taken, %d free (Avail %d), %d held (Held %d)", w.pages, len(taken), len(free), w.m.Avail(), held, w.m.Held())
	}
}

// ended asks what Commit and Abort leave: what was to be taken is, nothing is held, nothing is of this transaction.
func (w *witness) ended(t *testing.T, what string, want []int) {
	t.Helper()
	if got := w.m.Taken(); !slices.Equal(got, want) {
		t.Fatalf("behind %s %v are taken, not %v", what, got, want)
	}
	if w.m.Held() != 0 || w.m.Avail() != w.pages-len(want) {
		t.Fatalf("behind %s: Held %d, Avail %d", what, w.m.Held(), w.m.Avail())
	}
	for p := range w.pages {
		if w.m.Mine(p) {
			t.Fatalf("behind %s page %d is of this transaction", what, p)
		}
	}
	w.begun = want
}

// act does one act that is drawn, and asks what follows of it.
func (w *witness) act(t *testing.T, r *draws) {
	t.Helper()
	free, taken := freeOf(w.m), w.m.Taken()
	switch k := r.below(16); {
	case k < 4:
		if p, e := w.m.Alloc(); e == api.OK {
			w.tookOnlyFree(t, p, 1, free)
		}
	case k < 7:
		n := 1 + r.below(5)
		if p, e := w.m.AllocRun(n); e == api.OK {
			w.tookOnlyFree(t, p, n, free)
		}
	case k < 14:
		p := r.below(w.pages)
		mine := w.m.Mine(p)
		if w.m.Free(p) == api.OK && slices.Contains(freeOf(w.m), p) != mine {
			t.Fatalf("page %d is free: %v, and was of this transaction: %v", p, !mine, mine)
		}
	case k < 15:
		wantErr(t, "Commit", w.m.Commit(), api.OK)
		w.ended(t, "Commit", taken)
	default:
		wantErr(t, "Abort", w.m.Abort(), api.OK)
		w.ended(t, "Abort", w.begun)
	}
}

// P8.6, P8.7, P8.8: over many acts what is handed out was not taken behind the last Commit; taken, held and free pages are all, each one of them; Abort leaves what was taken then, Commit what Taken told ahead of it.
func TestWhatFollows(t *testing.T) {
	for seed := range 150 {
		r := draws(seed + 7000)
		pages := 8 + r.below(60)
		if seed%50 == 0 {
			pages = 1000 + r.below(100)
		}
		l := r.list(pages)
		m, e := freemap.Open(pages, l)
		wantErr(t, "Open", e, api.OK)
		w := &witness{m: m, pages: pages, begun: l}
		for range 120 {
			w.act(t, &r)
			w.parts(t)
		}
	}
}

// P8.6: all that is taken let go, and all that is free taken, till nothing is: nothing of what was taken ahead of it is handed out.
func TestNothingThatCountsIsWrittenOver(t *testing.T) {
	r := draws(30)
	for _, pages := range sizes {
		l := r.list(pages)
		m, want := opened(t, pages, l...)
		freeAll(t, m, want)
		for range pages - len(l) {
			p, e := m.Alloc()
			if e != api.OK || slices.Contains(l, p) {
				t.Fatalf("of %d: Alloc answers %d, %d; taken ahead of it were %v", pages, p, int(e), l)
			}
		}
		if p, e := m.Alloc(); e != api.ErrFull {
			t.Fatalf("of %d: page %d is handed out beyond those that were free", pages, p)
		}
		if m.Held() != len(l) || m.Avail() != 0 || len(m.Taken()) != pages-len(l) {
			t.Fatalf("of %d: Held %d, Avail %d", pages, m.Held(), m.Avail())
		}
		wantErr(t, "Commit", m.Commit(), api.OK)
		if got := freeOf(m); !slices.Equal(got, l) {
			t.Fatalf("of %d: behind Commit %v are free, not %v", pages, got, l)
		}
	}
}

// P8.5, P8.8: what a commit leaves goes there and back by its pages, and is opened again as it was.
func TestCommittedMapsThereAndBack(t *testing.T) {
	r := draws(31)
	for _, pages := range sizes {
		m, want := drawn(t, &r, pages)
		doCommit(t, "Commit", m, want)
		var l [][]byte
		for i := range freemap.Need(pages) {
			b, e := freemap.Put(pages, m.Taken(), i)
			wantErr(t, "Put", e, api.OK)
			l = append(l, b)
		}
		wantGet(t, fmt.Sprint("of ", pages), pages, l, m.Taken())
		again, _ := opened(t, pages, m.Taken()...)
		wantMap(t, "opened again", again, want)
	}
}

// THE BOUND: a call takes about as long as there are pages, whatever rows they are in.
func TestTheGreatestMapsInTime(t *testing.T) {
	for step := 2; step <= 20; step++ {
		var l []int
		for p := 0; p < api.MaxPages; p += step {
			l = append(l, p)
		}
		m, want := opened(t, api.MaxPages, l...)
		for range 200 {
			for _, n := range []int{step, step + 1, api.MaxPages / 2, api.MaxPages} {
				if p, e := m.AllocRun(n); p != 0 || e != api.ErrFull {
					t.Fatalf("step %d: AllocRun(%d) answers %d, %d", step, n, p, int(e))
				}
			}
		}
		for range want.those(isFree) {
			if p, e := m.Alloc(); e != api.OK || p%step == 0 {
				t.Fatalf("step %d: Alloc answers %d, %d", step, p, int(e))
			}
		}
		doAbort(t, "Abort", m, want)
		wantMap(t, "behind Abort", m, want)
	}
}
