package pager_test

import (
	"bytes"
	"fmt"
	"math"
	"slices"
	"testing"

	"incipit/api"
	"incipit/cache"
	"incipit/pager"
)

// P9.5, R5: of a pager that no call made calls with an error answer ErrMade, whatever else is wrong; all others their zero value.
func TestPagersThatNoCallMade(t *testing.T) {
	var zero pager.Pager
	refused, _ := pager.Open(device(t, 8), 2)
	held, e := cache.New(device(t, 8), 2)
	wantErr(t, "cache.New", e, api.OK)
	for what, p := range map[string]*pager.Pager{"nil": nil, "zero": {}, "new": new(pager.Pager), "a variable": &zero, "refused": refused, "a cache alone": {Cache: held}} {
		for range 2 { // the calls have made nothing of it
			b := &both{t: t, what: what, p: p}
			b.wantNothing(api.ErrMade)
			for _, page := range append([]int{2, 3, 7}, farPages...) {
				if p.Mine(page) {
					t.Errorf("%s: Mine(%d)", what, page)
				}
			}
			if p.Avail() != 0 || len(p.Taken()) != 0 || len(p.Maps()) != 0 || len(p.User()) != 0 || p.Epoch() != 0 || p.Pages() != 0 || p.On() {
				t.Errorf("%s tells %d, %v, %v, %v, %d, %d, %v", what, p.Avail(), p.Taken(), p.Maps(), p.User(), p.Epoch(), p.Pages(), p.On())
			}
		}
	}
}

// R3: bytes that were handed in are not written to, and not kept: their owner may change them.
func TestBytesThatAreHandedIn(t *testing.T) {
	for _, size := range []int{2, 64} {
		r := draws(4)
		b := formatted(t, 20, size)
		all := r.bytes(400)
		was := bytes.Clone(all)
		framed, raw, user := all[10:250:250], all[20:276:276], all[30:62:62]
		leaf, e := b.new(api.KindLeaf, framed)
		b.ok(e)
		page, e := b.newRaw(raw)
		b.ok(e)
		other := b.takes(2)
		b.ok(b.put(other[0], api.KindInner, framed), b.putRaw(other[1], raw[:100]))
		wantErr(t, "Commit of too many", b.commit(all[:33]), api.ErrLong)
		wantErr(t, "Put of too many", b.put(leaf, api.KindInner, all[:241]), api.ErrLong)
		b.ok(b.commit(user))
		b.ok(b.putRaw(page, raw[1:]))
		b.readAll("Commit")
		if !bytes.Equal(all, was) {
			t.Fatal("what was handed in was written to")
		}
		b.m = b.m.clone()
		clear(all)
		b.readAll("their owner changed them")
		if !bytes.Equal(b.p.User(), was[30:62]) {
			t.Fatal("user's bytes are", b.p.User())
		}
		if got, e := b.p.Read(leaf, api.KindLeaf); e != api.OK || !bytes.Equal(got, was[10:250]) {
			t.Fatal("a frame bears", got, e)
		}
		b.ok(b.commit(nil))
		b.readAll("Commit again")
		opened(t, b.d, 2).readAll("Open")
	}
}

// R3: what is answered is nobody's else: changed by its owner it leaves the pager, and other answers, as they were.
func TestWhatIsAnswered(t *testing.T) {
	for _, size := range []int{2, 64} {
		for _, pages := range []int{20, 1025} {
			x := mixture(t, pages, size)
			x.ok(x.commit([]byte("user")))
			for range 2 {
				framed, e := x.p.Read(x.oldLeaf, api.KindLeaf)
				x.ok(e)
				bears, e := x.p.Read(x.p.Maps()[0], api.KindMap)
				x.ok(e)
				raw, e := x.p.Raw(x.oldRaw)
				x.ok(e)
				mine, e := x.p.Raw(x.mineRaw)
				x.ok(e)
				for _, b := range [][]byte{framed, bears, raw, mine, x.p.User()} {
					for i := range b {
						b[i] ^= 255
					}
					_ = append(b, 1, 2, 3)
				}
				for _, l := range [][]int{x.p.Taken(), x.p.Maps()} {
					for i := range l {
						l[i] = -1
					}
					_ = append(l, 9)
				}
				x.readAll("answers were changed")
				opened(t, x.d, 2).readAll("Open")
			}
			taken, maps, user := x.p.Taken(), x.p.Maps(), x.p.User()
			raw, e := x.p.Raw(x.oldRaw)
			x.ok(e)
			old := [][]int{slices.Clone(taken), slices.Clone(maps)}
			was := bytes.Clone(raw)
			x.takes(2)
			x.ok(x.putRaw(x.oldRaw, []byte("other")), x.commit([]byte("other")))
			if !slices.Equal(taken, old[0]) || !slices.Equal(maps, old[1]) || string(user) != "user" || !bytes.Equal(raw, was) {
				t.Fatal("answers changed with the pager")
			}
		}
	}
}

// R3: an answer that is handed in again is kept no more than other bytes.
func TestAnAnswerThatIsPut(t *testing.T) {
	x := mixture(t, 20, 64)
	raw, e := x.p.Raw(x.oldRaw)
	x.ok(e, x.putRaw(x.mineRaw, bytes.Clone(raw)))
	wantErr(t, "PutRaw", x.p.PutRaw(x.mineRaw, raw), api.OK)
	clear(raw)
	x.readAll("PutRaw of an answer")
	user := x.p.User()
	x.ok(x.commit(bytes.Clone(user)))
	user2 := x.p.User()
	wantErr(t, "Commit", x.p.Commit(user2), api.OK)
	clear(user2)
	if !bytes.Equal(x.p.User(), user) {
		t.Fatal("user's bytes are", x.p.User())
	}
}

// R3: what Open found is not the image's any more: pagers of two devices share nothing.
func TestPagersOfTheirOwn(t *testing.T) {
	x := mixture(t, 20, 4)
	x.ok(x.commit([]byte("one")))
	a, b := opened(t, x.d.Clone(), 3), opened(t, x.d.Clone(), 3)
	a.takes(4)
	a.ok(a.putRaw(x.oldRaw, []byte("a's")), a.commit([]byte("two")))
	a.readAll("Commit")
	b.readAll("the other one's Commit")
	b.ok(b.free(x.oldRaw), b.commit(nil))
	a.readAll("the other one's Commit")
}

// R4: empty and nil lists are the same.
func TestEmptyAndNil(t *testing.T) {
	var told []string
	for _, none := range [][]byte{nil, {}} {
		b := formatted(t, 12, 2)
		leaf, e := b.new(api.KindLeaf, none)
		b.ok(e)
		raw, e := b.newRaw(none)
		b.ok(e, b.put(leaf, api.KindInner, none), b.putRaw(raw, none), b.commit(none), b.putRaw(raw, none))
		b.readAll("nothing")
		told = append(told, fmt.Sprint(b.p.Taken(), b.p.Maps(), len(b.p.User()), b.d.Image()))
	}
	if told[0] != told[1] {
		t.Fatal("empty and nil differ")
	}
}

// R1: no call panics, and each ends, at whatever numbers, in whatever order.
func TestFarNumbers(t *testing.T) {
	x := mixture(t, 16, 2)
	numbers := slices.Concat(farPages, noKinds, []int{2, 3, 7, 15, 16, math.MaxInt32, math.MinInt32, math.MaxUint32})
	for _, page := range numbers {
		for _, kind := range numbers {
			x.read(page, kind)
			x.put(page, kind, nil)
			if kind < 1 || kind > 4 {
				x.new(kind, nil)
			}
		}
		x.raw(page)
		x.putRaw(page, []byte{1})
		if x.p.Mine(page) != x.m.mine(page) {
			t.Fatalf("Mine(%d) is %v", page, x.p.Mine(page))
		}
		x.told("far numbers")
	}
	for _, page := range numbers {
		x.free(page)
		x.told("Free")
	}
	x.readAll("far numbers")
}

// R1: in the last epoch no call panics: what the next one is called is not asked.
func TestTheLastEpoch(t *testing.T) {
	taken := []int{0, 1, 4}
	image := laid(9, map[int][]byte{1: plainHead(math.MaxUint64, 9, []int{4}, nil), 4: mapPage(4, taken, 0)})
	b := opened(t, loaded(t, image), 2)
	b.takes(2)
	b.p.Commit(nil)
	b.p.New(api.KindLeaf, nil)
	b.p.Abort()
	b.p.Commit([]byte{1})
}

// R6: the same calls answer the same, and write the same in the same order.
func TestTheSameCallsAnswerTheSame(t *testing.T) {
	live := func(left int) string {
		r := draws(5)
		b := formatted(t, 30, 4)
		wantErr(t, "Arm", b.d.Arm(left), api.OK)
		b.liveTill(&r, 300)
		waits := b.d.Waits()
		wantErr(t, "Crash", b.d.Crash(r.picks(waits)...), api.OK)
		return fmt.Sprint(b.p.Taken(), b.p.Maps(), b.p.User(), b.p.Epoch(), waits, b.d.Ops(), b.d.Image())
	}
	for _, left := range []int{3, 20, 77, 1 << 20} {
		first := live(left)
		for range 3 {
			if live(left) != first {
				t.Fatal("the same calls answered something else")
			}
		}
	}
}

// THE BOUND: a call takes about as long as there are pages, whatever was done before.
func TestTheGreatestPagersInTime(t *testing.T) {
	d := device(t, api.MaxPages)
	p, e := pager.Format(d, api.MaxCache)
	wantErr(t, "Format", e, api.OK)
	for p.Avail() > 4 {
		_, e := p.NewRaw([]byte{1})
		wantErr(t, "NewRaw", e, api.OK)
	}
	for round := range 300 {
		wantErr(t, "Commit", p.Commit(nil), api.OK)
		for i := range 100 {
			page := 100 + (i*37+round)%1900
			if _, e := p.Raw(page); e != api.OK && e != api.ErrNone {
				t.Fatal("Raw", e)
			}
			if e := p.PutRaw(page, []byte{byte(i)}); e != api.OK && e != api.ErrNone && e != api.ErrShadow {
				t.Fatal("PutRaw", e)
			}
		}
		if round%3 == 0 {
			wantErr(t, "Abort", p.Abort(), api.OK)
		}
	}
	if q, e := pager.Open(d, 2); e != api.OK || !slices.Equal(q.Taken(), p.Taken()) {
		t.Fatal("Open", e)
	}
}
