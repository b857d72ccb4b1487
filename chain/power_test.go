package chain_test

import (
	"fmt"
	"testing"

	"incipit/api"
	"incipit/chain"
	"incipit/pager"
)

// answers are what each call answers of a chain: its error, and whether all else is its zero value.
func answers(p *pager.Pager, c api.Chain, data []byte, marks ...api.Mark) map[string]answer {
	b, e := chain.Read(p, c)
	pages, f := chain.Pages(p, c)
	m, g := chain.Seek(p, c, 1<<32-1)
	n, h := chain.New(p, 2, data, marks...)
	a, i := chain.Append(p, c, data, marks...)
	return map[string]answer{
		"Read":   {e, b == nil},
		"Pages":  {f, pages == nil},
		"Seek":   {g, m == api.Mark{}},
		"New":    {h, n == api.Chain{}},
		"Append": {i, a == api.Chain{}},
		"Drop":   {chain.Drop(p, c), true},
	}
}

type answer struct {
	e    api.Errno
	zero bool
}

// cut takes the power away.
func (l *lab) cut() {
	l.t.Helper()
	wantErr(l.t, "Arm", l.d.Arm(0), api.OK)
	wantErr(l.t, "Sync", l.d.Sync(), api.ErrPower)
}

// R2, P17.2, P17.3: the pager's error is told by each call, and nothing beside it; what is known without the device stands ahead of it.
func TestWithoutPower(t *testing.T) {
	l := begun(t, 30)
	c := l.made(5, 700, mark(0, 4))
	l.commit()
	l.cut()
	for range 2 {
		for call, a := range answers(l.p, c, some(5), mark(c.Bytes, 9)) {
			want := api.ErrPower
			if call == "New" {
				want = api.ErrArg // the mark is not one of New's
			}
			if a.e != want || !a.zero {
				t.Errorf("%s answers error %d, all else is nothing: %v", call, int(a.e), a.zero)
			}
		}
		for call, a := range answers(l.p, api.Chain{Head: 3, Tail: 3, Pages: 1, Bytes: 249}, some(5)) {
			want := api.ErrChain
			if call == "New" {
				want = api.ErrPower
			}
			if a.e != want || !a.zero {
				t.Errorf("%s of no chain answers error %d, all else is nothing: %v", call, int(a.e), a.zero)
			}
		}
		wantErr(t, "Append of no data", second(chain.Append(l.p, c, nil)), api.ErrPower)
		wantErr(t, "Append of wrong marks", second(chain.Append(l.p, c, nil, mark(0, 1))), api.ErrPower)
		wantErr(t, "Append to the empty chain", second(chain.Append(l.p, api.Chain{}, some(1))), api.ErrPower)
	}
	wantErr(t, "Crash", l.d.Crash(), api.OK)
	p, e := pager.Open(l.d, 3)
	wantErr(t, "Open", e, api.OK)
	l.p = p
	wantErr(t, "reads", l.reads(c), api.OK)
}

func second(_ api.Chain, e api.Errno) api.Errno { return e }

// P17.1 to P17.3: the empty chain asks the pager for nothing, so that no power is needed.
func TestNothingWithoutPower(t *testing.T) {
	l := begun(t, 30)
	l.cut()
	for call, a := range answers(l.p, api.Chain{}, nil) {
		if a.e != api.OK {
			t.Errorf("%s answers error %d", call, int(a.e))
		}
	}
}

// R2: where the power goes in a call, at each write that it makes, the answer is ErrPower, with nothing beside it.
func TestPowerThatGoesInACall(t *testing.T) {
	calls := map[string]func(l *lab, c api.Chain) (api.Errno, bool){
		"New": func(l *lab, c api.Chain) (api.Errno, bool) {
			d, e := chain.New(l.p, 9, some(1000))
			return e, d == api.Chain{}
		},
		"Append": func(l *lab, c api.Chain) (api.Errno, bool) {
			d, e := chain.Append(l.p, c, some(1000))
			return e, d == api.Chain{}
		},
		"Read": func(l *lab, c api.Chain) (api.Errno, bool) {
			b, e := chain.Read(l.p, c)
			return e, b == nil
		},
		"Pages": func(l *lab, c api.Chain) (api.Errno, bool) {
			b, e := chain.Pages(l.p, c)
			return e, b == nil
		},
		"Seek": func(l *lab, c api.Chain) (api.Errno, bool) {
			m, e := chain.Seek(l.p, c, 9)
			return e, m == api.Mark{}
		},
		"Drop": func(l *lab, c api.Chain) (api.Errno, bool) { return chain.Drop(l.p, c), true },
	}
	for what, call := range calls {
		gone := 0
		for at := 0; ; at++ {
			l := begun(t, 60)
			c := l.made(0, 800, mark(0, 5))
			l.commit()
			for range 4 { // pages that were changed, and are not written yet
				_, e := l.p.NewRaw([]byte{1})
				wantErr(t, "NewRaw", e, api.OK)
			}
			wantErr(t, "Arm", l.d.Arm(at), api.OK)
			e, zero := call(l, c)
			if e == api.OK && l.d.On() {
				break
			}
			gone++
			if e != api.ErrPower || !zero {
				t.Fatal(fmt.Sprintf("%s, power for %d writes: error %d, all else is nothing: %v", what, at, int(e), zero))
			}
		}
		if gone == 0 {
			t.Error(what, "writes nothing")
		}
	}
}
