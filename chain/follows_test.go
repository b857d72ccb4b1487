package chain_test

import (
	"bytes"
	"fmt"
	"slices"
	"testing"

	"incipit/api"
	"incipit/chain"
	"incipit/pager"
)

// told is a chain, and what it must be read as.
type told struct {
	c     api.Chain
	data  []byte
	posts []api.Mark // all marks that it was given; their documents rise
	tight bool       // it was made of as many pages as it needed
	pages []int
	marks []api.Mark // what Seek tells of the documents of asked
}

// asked is some of the postings, far apart, the last one among them.
func (x told) asked() []api.Mark {
	var l []api.Mark
	for i := len(x.posts) - 1; i >= 0; i -= 1 + len(x.posts)/6 {
		l = append(l, x.posts[i])
	}
	return l
}

// tell is a chain as it is read now.
func (l *lab) tell(c api.Chain, data []byte, posts []api.Mark, tight bool) told {
	l.t.Helper()
	x := told{c: c, data: data, posts: posts, tight: tight}
	pages, e := chain.Pages(l.p, c)
	wantErr(l.t, l.what+": Pages", e, api.OK)
	x.pages = pages
	for _, m := range x.asked() {
		found, e := chain.Seek(l.p, c, m.Doc)
		wantErr(l.t, l.what+": Seek", e, api.OK)
		x.marks = append(x.marks, found)
	}
	l.stays(x)
	return x
}

// stays asks that a chain is read as it was told, and what follows of that.
func (l *lab) stays(x told) {
	l.t.Helper()
	b, e := chain.Read(l.p, x.c)
	if e != api.OK || !bytes.Equal(b, x.data) { // P17.4
		l.t.Fatalf("%s: Read(%v) is %v, error %d, not %v", l.what, x.c, b, int(e), x.data)
	}
	pages, e := chain.Pages(l.p, x.c)
	if e != api.OK || !slices.Equal(pages, x.pages) {
		l.t.Fatalf("%s: Pages(%v) are %v, error %d, not %v", l.what, x.c, pages, int(e), x.pages)
	}
	if need := plainLeast(len(x.data)); x.tight && len(x.data) > 0 && x.c.Pages >= 2*need { // P17.6
		l.t.Fatalf("%s: %v has %d pages; its bytes need %d", l.what, x.c, x.c.Pages, need)
	}
	for i, m := range x.asked() {
		found, e := chain.Seek(l.p, x.c, m.Doc)
		if e != api.OK || found != x.marks[i] {
			l.t.Fatalf("%s: Seek(%v, %d) is %v, error %d, not %v", l.what, x.c, m.Doc, found, int(e), x.marks[i])
		}
		if found.At > m.At || found.Doc > m.Doc { // P17.7
			l.t.Fatalf("%s: Seek(%v, %d) is %v; its posting begins at %d", l.what, x.c, m.Doc, found, m.At)
		}
		if found != (api.Mark{}) && !slices.Contains(x.posts, found) {
			l.t.Fatalf("%s: Seek(%v, %d) is %v, which is no mark of it", l.what, x.c, m.Doc, found)
		}
	}
}

// life is chains on one pager.
type life struct {
	*lab
	now   []told
	last  []told // as the last commit that was OK left them
	doubt []told // as the commit would have, in which the power went
	epoch uint64 // of last
	armed bool   // then a look at all pages could be what takes the power
}

// drawnMarks draws marks of bytes from a place on; their documents rise behind doc.
func (r *draws) drawnMarks(from, end int, doc uint32) []api.Mark {
	var marks []api.Mark
	step := []int{1, 3, 60, 300, 2000}[r.below(5)]
	for at := from + r.below(step)*r.below(2); at < end; at += 1 + r.below(step) {
		doc += uint32(1 + r.below(5))
		marks = append(marks, mark(at, doc))
	}
	return marks
}

// few draws a number of bytes, often near to how many a page bears.
func (r *draws) few() int {
	return []int{r.below(30), r.below(300), 240 + r.below(20), 496, r.below(2000)}[r.below(5)]
}

// begin makes a chain that is drawn.
func (v *life) begin(r *draws) api.Errno {
	v.t.Helper()
	data := r.bytes(r.few())
	marks := r.drawnMarks(0, len(data), 0)
	wish := r.below(2) * r.below(12)
	call := v.make
	if v.armed {
		call = func(pages int, data []byte, marks ...api.Mark) (api.Chain, api.Errno) {
			return chain.New(v.p, pages, data, marks...)
		}
	}
	c, e := call(wish, data, marks...)
	if e == api.OK {
		v.come(-1, c, data, marks, c.Pages == plainLeast(len(data)))
	}
	return e
}

// grow puts data that are drawn behind a chain that is drawn; the chain as it was is read as it was.
func (v *life) grow(r *draws) api.Errno {
	v.t.Helper()
	if len(v.now) == 0 {
		return api.OK
	}
	i := r.below(len(v.now))
	x := v.now[i]
	data := r.bytes(r.few())
	doc := uint32(0)
	if len(x.posts) > 0 {
		doc = x.posts[len(x.posts)-1].Doc
	}
	marks := r.drawnMarks(len(x.data), len(x.data)+len(data), doc)
	call := v.append
	if v.armed {
		call = func(c api.Chain, data []byte, marks ...api.Mark) (api.Chain, api.Errno) {
			return chain.Append(v.p, c, data, marks...)
		}
	}
	c, e := call(x.c, data, marks...)
	if e == api.OK {
		v.come(i, c, slices.Concat(x.data, data), slices.Concat(x.posts, marks), x.tight)
	}
	if !v.armed {
		v.stays(x) // P17.5
	}
	return e
}

// come keeps a chain, in the place of another, if i is not below 0.
func (v *life) come(i int, c api.Chain, data []byte, posts []api.Mark, tight bool) {
	v.t.Helper()
	x := told{c: c, data: data, posts: posts, tight: tight}
	if !v.armed {
		x = v.tell(c, data, posts, tight)
	}
	if i < 0 {
		v.now = append(v.now, x)
	} else {
		v.now[i] = x
	}
}

// end drops a chain that is drawn.
func (v *life) end(r *draws) api.Errno {
	v.t.Helper()
	if len(v.now) == 0 {
		return api.OK
	}
	i := r.below(len(v.now))
	e := api.OK
	if v.armed {
		e = chain.Drop(v.p, v.now[i].c)
	} else {
		e = v.drop(v.now[i].c)
	}
	if e == api.OK {
		v.now = slices.Delete(slices.Clone(v.now), i, i+1)
	}
	return e
}

// settle commits; where there is no room for it all is as behind Abort.
func (v *life) settle() api.Errno {
	v.t.Helper()
	e := v.p.Commit(nil)
	switch e {
	case api.OK:
		v.last, v.epoch = slices.Clone(v.now), v.p.Epoch()
	case api.ErrFull:
		v.now = slices.Clone(v.last)
	case api.ErrPower:
		v.doubt = slices.Clone(v.now)
	}
	return e
}

// crash arms the device, goes on till the power is gone, or for some acts, and opens what a crash makes of it: the chains of the last commit, or of that in doubt.
func (v *life) crash(r *draws) {
	v.t.Helper()
	v.armed, v.doubt = true, nil
	wantErr(v.t, "Arm", v.d.Arm(r.below(12)), api.OK)
	for range 1 + r.below(12) {
		if v.act(r, r.below(24)) == api.ErrPower {
			break
		}
	}
	picks := make([]uint8, v.d.Waits())
	for i := range picks {
		picks[i] = uint8([]int{0, 4, r.below(5)}[r.below(3)])
	}
	wantErr(v.t, "Crash", v.d.Crash(picks...), api.OK)
	p, e := pager.Open(v.d, 2+r.below(6))
	wantErr(v.t, v.what+": Open", e, api.OK)
	v.p, v.armed = p, false
	if p.Epoch() != v.epoch {
		v.last, v.epoch = v.doubt, p.Epoch()
	}
	for i, x := range v.last {
		if x.pages == nil { // it was made when nothing was to be looked at
			v.last[i] = v.tell(x.c, x.data, x.posts, x.tight)
		}
	}
	v.now = slices.Clone(v.last)
}

// act does one act, and answers its error.
func (v *life) act(r *draws, which int) api.Errno {
	v.t.Helper()
	switch {
	case which < 6:
		return v.begin(r)
	case which < 16:
		return v.grow(r)
	case which < 19:
		return v.end(r)
	case which < 22:
		return v.settle()
	case which < 23 && !v.armed:
		wantErr(v.t, v.what+": Abort", v.p.Abort(), api.OK)
		v.now = slices.Clone(v.last)
	case which < 24 && !v.armed:
		v.crash(r)
	}
	return api.OK
}

// right asks that all chains are as they were told, and stand on pages of their own, which are all that are taken.
func (v *life) right() {
	v.t.Helper()
	used := append(v.p.Maps(), 0, 1)
	for _, x := range v.now {
		v.stays(x)
		used = append(used, x.pages...)
	}
	slices.Sort(used)
	if !slices.Equal(used, v.p.Taken()) {
		v.t.Fatalf("%s: used are %v, taken %v", v.what, used, v.p.Taken())
	}
}

// born is a life on a new device.
func born(t *testing.T, pages int) *life {
	t.Helper()
	l := begun(t, pages)
	return &life{lab: l, epoch: l.p.Epoch()}
}

// P17.4 to P17.7: drawn lives: chains that begin, go on and are dropped on one pager, with commits, aborts and crashes among them.
func TestLives(t *testing.T) {
	t.Parallel()
	for seed := range 60 {
		r := draws(seed * 11)
		v := born(t, []int{8, 10, 14, 24, 40, 90}[seed%6])
		for n := range 250 {
			v.what = fmt.Sprintf("seed %d, act %d", seed, n)
			v.act(&r, r.below(24))
			v.right()
		}
	}
}

// Each byte is an act, or what one needs: as the plain one, whatever they are.
func FuzzLife(f *testing.F) {
	f.Add(uint8(8), []byte{0, 3, 1, 9, 200, 7, 255, 31, 4, 22, 23})
	f.Add(uint8(90), []byte("new, append, drop, commit, abort, crash and all of it again"))
	f.Fuzz(func(t *testing.T, pages uint8, acts []byte) {
		v := born(t, 8+int(pages)%90)
		for i, a := range acts[:min(len(acts), 120)] {
			r := draws(uint32(a)*7919 + uint32(i)*31)
			v.act(&r, int(a)%24)
			v.right()
		}
	})
}

// P17.5: the chain that the last commit has is read as it was behind many Appends in place, behind Abort, and goes on from there as if nothing had been.
func TestWhatWasThereStays(t *testing.T) {
	for _, had := range []int{1, 100, 247, 248, 249, 496, 1000} {
		for _, spare := range []int{0, 3} {
			l := begun(t, 120)
			c := l.sized(had, spare)
			l.commit()
			was := l.tell(c, some(had), []api.Mark{mark(0, 3)}, spare == 0)
			for range 3 {
				var olds []told
				for d, doc := c, uint32(3); d.Bytes < had+1500; {
					before := d
					d = l.longer(d, 97, mark(d.Bytes, doc+1), mark(d.Bytes+50, doc+2))
					doc += 2
					olds = append(olds, l.tell(before, func() []byte { b, _ := chain.Read(l.p, before); return b }(), nil, false))
				}
				for _, x := range append(olds, was) {
					l.stays(x)
				}
				l.abort()
				l.stays(was)
				l.longer(c, 600) // without a mark: those that were there behind the end are gone
				d := l.longer(c, 600)
				l.wantMarks(d, mark(0, 3))
				l.abort()
			}
		}
	}
}

// P17.5: behind a crash at each write and sync of a commit, and of Appends on a cache that holds little, the committed chain is read as it was, or as the commit in doubt had it.
func TestWhatWasThereStaysBehindEachCrash(t *testing.T) {
	for _, had := range []int{1, 200, 248, 300, 744} {
		for at := 0; ; at++ {
			l := begun(t, 40)
			c := l.sized(had, had%3)
			l.commit()
			was := l.tell(c, some(had), []api.Mark{mark(0, 3)}, false)
			wantErr(t, "Arm", l.d.Arm(at), api.OK)
			d, e := chain.Append(l.p, c, some(900), mark(had, 9), mark(had+700, 10))
			if e == api.OK {
				e = l.p.Commit(nil)
			}
			if e == api.OK {
				break
			}
			wantErr(t, "the act in which the power goes", e, api.ErrPower)
			for pick := range uint8(7) {
				l.opened(was, d, slices.Repeat([]uint8{pick, pick * pick, 4 - pick%5}, l.d.Waits()))
			}
		}
	}
}

// opened asks what a crash leaves: the chain as it was, or, if that was committed, as it is to be.
func (l *lab) opened(was told, d api.Chain, picks []uint8) {
	l.t.Helper()
	device := l.d.Clone()
	wantErr(l.t, "Crash", device.Crash(picks...), api.OK)
	p, e := pager.Open(device, 4)
	wantErr(l.t, "Open", e, api.OK)
	after := &lab{t: l.t, what: "opened", d: device, p: p}
	after.stays(was)
	if p.Epoch() > 2 {
		b, e := chain.Read(p, d)
		if e != api.OK || !bytes.Equal(b, slices.Concat(was.data, some(900))) {
			l.t.Fatalf("Read(%v) is %v, error %d", d, b, int(e))
		}
	}
	after.longer(was.c, 500, mark(was.c.Bytes, 7))
}

// P17.6: whatever comes, and in whatever pieces: fewer than twice as many pages as are needed.
func TestNeverTwiceAsManyPages(t *testing.T) {
	for _, piece := range []int{1, 7, 100, 247, 248, 249, 500, 5000} {
		l := begun(t, 500)
		c := l.made(0, piece)
		for c.Bytes < min(30000, 200*piece) {
			var e api.Errno
			c, e = chain.Append(l.p, c, some(piece))
			if e != api.OK || c.Pages >= 2*plainLeast(c.Bytes) {
				t.Fatal(piece, c, int(e))
			}
		}
	}
}

// P17.7: postings one behind the other, put in pieces: what Seek tells is at the posting, or ahead of it, and no further back than the page ahead of its page has its mark.
func TestNothingIsSkipped(t *testing.T) {
	for _, length := range []int{1, 2, 60, 247, 248, 249, 700} {
		l := begun(t, 300)
		var c api.Chain
		var posts []api.Mark
		r := draws(length)
		for doc := uint32(1); doc < 60; {
			var data []byte
			var marks []api.Mark
			for range 1 + r.below(4) {
				marks = append(marks, mark(c.Bytes+len(data), doc))
				data = append(data, bytes.Repeat([]byte{byte(doc)}, length)...)
				doc += uint32(1 + r.below(3))
			}
			var e api.Errno
			c, e = l.append(c, data, marks...)
			wantErr(t, "Append", e, api.OK)
			posts = append(posts, marks...)
		}
		for doc := range uint32(70) {
			m, e := chain.Seek(l.p, c, doc)
			wantErr(t, "Seek", e, api.OK)
			for _, post := range posts {
				if post.Doc >= doc && post.At < m.At {
					t.Fatalf("%d bytes each: Seek(%d) is %v: ahead of it %v begins", length, doc, m, post)
				}
				if post.Doc <= doc && post.At/248 > m.At/248 && !slices.ContainsFunc(posts, func(o api.Mark) bool { return o.At/248 == post.At/248 && o.At < post.At }) {
					t.Fatalf("%d bytes each: Seek(%d) is %v: behind it %v is its page's mark", length, doc, m, post)
				}
			}
		}
	}
}
