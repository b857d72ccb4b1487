package pager_test

import (
	"bytes"
	"fmt"
	"slices"
	"testing"

	"incipit/api"
	"incipit/disk"
	"incipit/pager"
)

// wantSectors asks that each sector of a page is as it was then, or as it was put.
func (b *both) wantSectors(page int, got, then []byte, puts [][]byte) {
	b.t.Helper()
	for at := 0; at < 256; at += 64 {
		is := func(other []byte) bool { return bytes.Equal(got[at:at+64], other[at:at+64]) }
		if !is(then) && !slices.ContainsFunc(puts, is) {
			b.t.Fatalf("%s: page %d from byte %d on is %v; it was %v, and %d times put", b.what, page, at, got[at:at+64], then[at:at+64], len(puts))
		}
	}
}

// behindCrash opens what a crash left, and asks that it is the last commit that was OK, or the one in which the power went, whole; the pager that goes on with it.
func (b *both) behindCrash(d *disk.Disk, size int) *both {
	b.t.Helper()
	p, e := pager.Open(d, size)
	wantErr(b.t, b.what+": Open behind a crash", e, api.OK)
	m, puts := b.last.clone(), b.m.puts
	if b.doubt != nil && p.Epoch() == b.doubt.epoch {
		m, puts = b.doubt.clone(), make([][][]byte, len(m.page)) // all that was put ahead of it is stable
	}
	m.puts = make([][][]byte, len(m.page))
	next := &both{t: b.t, what: b.what + ", opened", d: d, p: p, m: m}
	next.told("a crash")
	for _, page := range m.taken()[2:] {
		got, e := p.Raw(page)
		wantErr(b.t, b.what+": Raw behind a crash", e, api.OK)
		b.wantSectors(page, got, m.bears[page], puts[page])
		m.bears[page] = got
	}
	next.last = m.clone()
	return next
}

// crashes are what crashes make of so many writes that wait: none, all, the last one alone, all but that, and drawn ones.
func crashes(r *draws, waits int) [][]uint8 {
	none, all := make([]uint8, waits), slices.Repeat([]uint8{4}, waits)
	l := [][]uint8{none, all, r.picks(waits), r.picks(waits), r.picks(waits)}
	if waits > 0 {
		last, first := slices.Clone(none), slices.Clone(all)
		last[waits-1], first[waits-1] = 4, 0
		one, torn := slices.Clone(none), slices.Clone(none)
		one[r.below(waits)] = 4
		torn[waits-1] = 1
		l = append(l, last, first, one, torn)
	}
	return l
}

// tryCrashes crashes copies of the device in many ways, and asks what is opened behind each.
func (b *both) tryCrashes(r *draws) {
	b.t.Helper()
	for _, picks := range crashes(r, b.d.Waits()) {
		d := b.d.Clone()
		wantErr(b.t, "Crash", d.Crash(picks...), api.OK)
		b.behindCrash(d, 2+r.below(5))
	}
}

// liveTill does so many drawn acts, or till the power is gone.
func (b *both) liveTill(r *draws, acts int) {
	b.t.Helper()
	for n := 0; n < acts && b.d.On(); n++ {
		b.act(r)
	}
}

// P9.6: the power gone at each write and each Sync of drawn lives, then crashes with many picks: Open tells the last commit that was OK, or the one in which the power went, whole.
func TestWholeOrNotAtAll(t *testing.T) {
	for seed := range 32 {
		pages, size := []int{8, 9, 12, 16, 24, 40, 16, 12}[seed%8], []int{2, 3, 2, 4, 2, 6, 64, 64, 5}[seed%9]
		for left := 0; ; left++ {
			if left > 1000 {
				t.Fatal("a life that does not end")
			}
			r := draws(seed*77 + 5)
			b := formatted(t, pages, size)
			b.what = fmt.Sprintf("seed %d, %d left", seed, left)
			wantErr(t, "Arm", b.d.Arm(left), api.OK)
			b.liveTill(&r, 150)
			b.tryCrashes(&r)
			if b.d.On() {
				break
			}
		}
	}
}

// P9.6: the same with two maps, of which one may come about without the other.
func TestWholeOrNotAtAllWithTwoMaps(t *testing.T) {
	for left := 0; ; left++ {
		if left > 200 {
			t.Fatal("a life that does not end")
		}
		r := draws(left)
		b := formatted(t, 1025, 2)
		b.what = fmt.Sprintf("%d left", left)
		l := b.takes(3)
		b.ok(b.commit([]byte("before")))
		wantErr(t, "Arm", b.d.Arm(left), api.OK)
		b.free(l[0])
		b.putRaw(l[1], []byte("in place"))
		b.new(api.KindLeaf, []byte("new"))
		b.newRaw([]byte("new"))
		b.commit([]byte("after"))
		on := b.d.On()
		b.tryCrashes(&r)
		if on {
			break
		}
	}
}

// P9.6: a crash without the power gone: at any point between acts.
func TestCrashesBetweenActs(t *testing.T) {
	for seed := range 12 {
		r := draws(seed + 60)
		b := formatted(t, 8+r.below(30), 2+r.below(6))
		b.what = fmt.Sprint("seed ", seed)
		for range 150 {
			b.act(&r)
			b.tryCrashes(&r)
		}
	}
}

// P9.6: again and again: behind each crash another pager goes on with what was opened, and its power goes, too.
func TestCrashUponCrash(t *testing.T) {
	for seed := range 150 {
		r := draws(seed + 9000)
		b := formatted(t, 8+r.below(25), 2+r.below(6))
		commits := 0
		for round := range 12 {
			b.what = fmt.Sprintf("seed %d, round %d", seed, round)
			wantErr(t, "Arm", b.d.Arm(r.below(40)), api.OK)
			before := b.p.Epoch()
			b.liveTill(&r, 80)
			commits += int(b.p.Epoch() - before)
			b.tryCrashes(&r)
			picks := crashes(&r, b.d.Waits())
			wantErr(t, "Crash", b.d.Crash(picks[r.below(len(picks))]...), api.OK)
			b = b.behindCrash(b.d, 2+r.below(6))
			b.readAll("a crash")
		}
		if commits == 0 {
			t.Fatalf("seed %d: no commit was OK", seed)
		}
	}
}

// P9.6: of a commit in which the power goes at the head's write, or at the Sync behind it, either may have come about, by the first sector alone.
func TestACommitInDoubt(t *testing.T) {
	for _, size := range []int{2, 64} {
		twin := mixture(t, 20, size)
		before := twin.d.Ops()
		twin.ok(twin.commit([]byte("after")))
		ops := twin.d.Ops() - before
		for _, left := range []int{ops - 2, ops - 1} { // the head's write, and the Sync behind it
			for first := range 5 {
				x := mixture(t, 20, size)
				wantErr(t, "Arm", x.d.Arm(left), api.OK)
				wantErr(t, "Commit", x.commit([]byte("after")), api.ErrPower)
				if x.d.Waits() != 1 {
					t.Fatalf("%d writes wait, not the head's alone", x.d.Waits())
				}
				wantErr(t, "Crash", x.d.Crash(uint8(first)), api.OK)
				next := x.behindCrash(x.d, 3)
				want, epoch := "before", uint64(2)
				if first > 0 {
					want, epoch = "after", 3
				}
				if string(next.p.User()) != want || next.p.Epoch() != epoch {
					t.Fatalf("%d sectors: user's bytes %q, epoch %d", first, next.p.User(), next.p.Epoch())
				}
			}
		}
	}
}

// wantSame asks that two pagers tell the same, and that each page bears the same, but for those that were put in place.
func wantSame(t *testing.T, what string, a, b *both, but []int) {
	t.Helper()
	if a.p.Epoch() != b.p.Epoch() || !slices.Equal(a.p.Maps(), b.p.Maps()) || !bytes.Equal(a.p.User(), b.p.User()) || !slices.Equal(a.p.Taken(), b.p.Taken()) || a.p.Avail() != b.p.Avail() || a.p.Pages() != b.p.Pages() || a.p.On() != b.p.On() {
		t.Fatalf("%s: taken %v, maps %v; the other one: %v, %v", what, a.p.Taken(), a.p.Maps(), b.p.Taken(), b.p.Maps())
	}
	for page := range a.p.Pages() {
		if a.p.Mine(page) != b.p.Mine(page) {
			t.Fatalf("%s: Mine(%d) is %v", what, page, a.p.Mine(page))
		}
		got, e := a.p.Raw(page)
		want, f := b.p.Raw(page)
		if e != f || !bytes.Equal(got, want) && !slices.Contains(but, page) {
			t.Fatalf("%s: page %d bears %v, %d; of the other one %v, %d", what, page, got, int(e), want, int(f))
		}
	}
}

// inPlace are the pages that were put in place since the last commit.
func (m *plain) inPlace() []int {
	var l []int
	for page, puts := range m.puts {
		if len(puts) > 0 {
			l = append(l, page)
		}
	}
	return l
}

// P9.7: behind acts and Abort a pager is as one that was opened on what the last commit left, but for raw pages that were put in place; and so is what it does then.
func TestNothingOfIt(t *testing.T) {
	for seed := range 60 {
		r := draws(seed + 300)
		pages, size := 8+r.below(30), 2+r.below(6)
		b := formatted(t, pages, size)
		for range r.below(60) {
			b.act(&r)
		}
		b.commit([]byte("last")) // or all is as behind Abort
		b.ok(b.commit([]byte("the last one")))
		image := b.d.Image()
		for range 1 + r.below(50) {
			if b.act(&r) == "Commit" {
				image = b.d.Image()
			}
		}
		b.ok(b.abort())
		but := b.m.inPlace()
		what := fmt.Sprint("seed ", seed)
		other := opened(t, loaded(t, image), 2+r.below(6))
		wantSame(t, what, b, other, but)
		again := r
		for range 30 {
			b.act(&r)
			other.act(&again)
		}
		b.commit(nil)
		other.commit(nil)
		wantSame(t, what+", and what is done then", b, other, but)
	}
}
