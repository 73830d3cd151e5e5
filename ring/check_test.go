package ring_test

import (
	"slices"
	"testing"

	"goodname/api"
)

// full has as many filings and parts as there may be, so that each number of it
// may be any.
func full() world {
	w := world{h: api.Hunt{Window: 100, Common: 12, Size: 3}, strength: 200, good: []int{20, 40}, most: 1}
	for i := range api.MaxFilings {
		w.l = append(w.l, filing(20*i, 50, 10, 20+10*(i%3), 100+i/2, 200+i/3, 300+i/4, 400))
	}
	w.a, w.b = w.l[0].Id, w.l[1].Id
	return w
}

func TestFullIsValid(t *testing.T) {
	if got := full().fine(t); got.why.e != api.OK {
		t.Error(got)
	}
}

// P8.1: each number of a hunt and of filings is valid at both ends of what it may
// be, and wrong beyond them, of whatever size and sign (R5).
func TestNumbersOfHuntsAndFilings(t *testing.T) {
	for _, x := range []struct {
		name   string
		at     func(w *world) *int
		lo, hi int
		e      api.Errno
	}{
		{"Window", func(w *world) *int { return &w.h.Window }, 0, api.MaxDay, api.ErrHunt},
		{"Common", func(w *world) *int { return &w.h.Common }, 2, api.MaxFilings, api.ErrHunt},
		{"Size", func(w *world) *int { return &w.h.Size }, 2, api.MaxFilings, api.ErrHunt},
		{"the first Id", func(w *world) *int { return &w.l[0].Id }, 0, 19, api.ErrFilings},
		{"an Id between two", func(w *world) *int { return &w.l[1].Id }, 1, 39, api.ErrFilings},
		{"the last Id", func(w *world) *int { return &w.l[23].Id }, 441, api.MaxId, api.ErrFilings},
		{"the first Day", func(w *world) *int { return &w.l[0].Day }, 0, api.MaxDay, api.ErrFilings},
		{"the last Day", func(w *world) *int { return &w.l[23].Day }, 0, api.MaxDay, api.ErrFilings},
		{"the first part", func(w *world) *int { return &w.l[0].Parts[0] }, 0, 19, api.ErrFilings},
		{"a part between two", func(w *world) *int { return &w.l[1].Parts[1] }, 11, 99, api.ErrFilings},
		{"the last part", func(w *world) *int { return &w.l[23].Parts[5] }, 306, api.MaxId, api.ErrFilings},
	} {
		for _, n := range []int{x.lo, x.hi} {
			w := full()
			*x.at(&w) = n
			if e := w.check(); e != api.OK {
				t.Error(x.name, n, e)
			}
		}
		for _, n := range odd(x.lo, x.hi) {
			w := full()
			*x.at(&w) = n
			if got := w.ask(); !got.is(all(x.e)) {
				t.Error(x.name, n, got)
			}
		}
	}
}

// P8.1: filings are at most 24, by Id, no two with the same one, each with at most
// six parts in increasing order.
func TestFilings(t *testing.T) {
	days := func(n int) []api.Filing {
		var l []api.Filing
		for i := range n {
			l = append(l, filing(i, 0))
		}
		return l
	}
	for i, x := range []struct {
		l  []api.Filing
		ok bool
	}{
		{nil, true},
		{days(1), true},
		{days(24), true},
		{days(25), false},
		{days(3000), false},
		{make([]api.Filing, 1), true},
		{make([]api.Filing, 2), false},
		{make([]api.Filing, 25), false},
		{[]api.Filing{filing(1, 0), filing(2, 0), filing(2, 5, 1)}, false},
		{[]api.Filing{filing(1, 0), filing(3, 0), filing(2, 0)}, false},
		{[]api.Filing{filing(2, 0), filing(1, 0), filing(3, 0)}, false},
		{[]api.Filing{filing(3, 0), filing(4, 0), filing(3, 0)}, false},
		{[]api.Filing{filing(api.MaxId, 0)}, true},
		{[]api.Filing{filing(api.MaxId, 0), filing(api.MaxId, 0)}, false},
		{[]api.Filing{filing(1, 9), filing(2, 5), filing(3, 7)}, true},
		{[]api.Filing{filing(1, 0, 0, 1, 2, 3, 4, api.MaxId)}, true},
		{[]api.Filing{filing(1, 0, 0, 1, 2, 3, 4, 5, 6)}, false},
		{[]api.Filing{filing(1, 0, 0, 0)}, false},
		{[]api.Filing{filing(1, 0, 1, 2, 2)}, false},
		{[]api.Filing{filing(1, 0, 2, 1)}, false},
		{[]api.Filing{filing(1, 0, 1, 3, 2)}, false},
		{[]api.Filing{filing(1, 0, api.MaxId, api.MaxId)}, false},
		{[]api.Filing{filing(1, 0, 7), filing(2, 0, 7)}, true},
		{[]api.Filing{filing(1, 0, 7, 8), filing(2, 0, 8, 7)}, false},
		{[]api.Filing{filing(1, 0, 8, 7), filing(2, 0, 7, 8)}, false},
	} {
		w := full()
		w.l = x.l
		if x.ok && w.check() != api.OK || !x.ok && !w.ask().is(all(api.ErrFilings)) {
			t.Error(i)
		}
	}
}

// R1: the hunt comes before the filings, and both before all that is asked.
func TestOrderOfCheck(t *testing.T) {
	wrongHunts := []api.Hunt{{}, {Window: -1, Common: 2, Size: 2}, {Common: 1, Size: 2}, {Common: 2, Size: 1}}
	wrongAsked := func(w *world) { w.a, w.b, w.strength, w.good, w.most = -1, -1, 0, []int{2, 1}, -1 }
	for i, h := range wrongHunts {
		w := full()
		w.h = h
		for _, l := range [][]api.Filing{full().l, nil, make([]api.Filing, 2)} {
			w.l = l
			if got := w.ask(); !got.is(all(api.ErrHunt)) {
				t.Error(i, got)
			}
			if got := w.with(wrongAsked).ask(); !got.is(all(api.ErrHunt)) {
				t.Error(i, got)
			}
		}
	}
	w := full()
	w.l = make([]api.Filing, 2)
	if got := w.with(wrongAsked).ask(); !got.is(all(api.ErrFilings)) {
		t.Error(got)
	}
}

// P8.1, P8.3: filings that are asked for are some of the list, and two.
func TestErrorsOfTwoFilings(t *testing.T) {
	strangers := append([]int{1, 19, 21, 459, 461, 1 << 32, 1<<32 + 20}, odd(0, api.MaxId)...)
	for _, x := range []struct {
		a, b []int
		e    api.Errno
	}{
		{[]int{0, 20, 460}, strangers, api.ErrNone},
		{strangers, []int{0, 20, 460}, api.ErrNone},
		{strangers, strangers, api.ErrNone},
		{[]int{0}, []int{0}, api.ErrArg},
		{[]int{20}, []int{20}, api.ErrArg},
		{[]int{460}, []int{460}, api.ErrArg},
	} {
		for _, a := range x.a {
			for _, b := range x.b {
				w := full().about(a, b)
				if w.weight() != (weight{e: x.e}) || !same(w.why(), told{e: x.e}) {
					t.Error(a, b, w.weight(), w.why())
				}
			}
		}
	}
	nobody := world{h: exampleHunt()}
	if nobody.weight() != (weight{e: api.ErrNone}) || !same(nobody.why(), told{e: api.ErrNone}) {
		t.Error(nobody.weight(), nobody.why())
	}
}

// P8.2, P8.4, R5: a strength is from 1 to 6,001.
func TestErrorsOfStrength(t *testing.T) {
	for _, n := range odd(1, api.MaxStrength) {
		w := full().at(n)
		if !same(w.rings(), rung{e: api.ErrArg}) || !same(w.apart(), apart{e: api.ErrArg}) {
			t.Error(n, w.rings(), w.apart())
		}
		w.l = nil
		if !same(w.rings(), rung{e: api.ErrArg}) {
			t.Error(n, w.rings())
		}
	}
	for _, n := range []int{1, api.MaxStrength} {
		w := full().at(n)
		if w.rings().e != api.OK || w.apart().e != api.OK {
			t.Error(n, w.rings(), w.apart())
		}
	}
}

// P8.4: who is not there comes before a strength that is none.
func TestErrorsOfApart(t *testing.T) {
	for _, id := range append([]int{1, 19, 21, 461}, odd(0, api.MaxId)...) {
		for _, strength := range []int{0, 1, api.MaxStrength, api.MaxStrength + 1} {
			if got := full().about(id, 0).at(strength).apart(); !same(got, apart{e: api.ErrNone}) {
				t.Error(id, strength, got)
			}
		}
	}
	nobody := world{h: exampleHunt(), strength: 1}
	if got := nobody.apart(); !same(got, apart{e: api.ErrNone}) {
		t.Error(got)
	}
}

// P8.5: good filings are some of the list, in increasing order, and most is from 0
// to 24.
func TestErrorsOfTune(t *testing.T) {
	for _, good := range [][]int{{1}, {0, 19}, {0, 20, 461}, {20, 20}, {0, 0}, {40, 20}, {0, 40, 20}, {0, 20, 40, 20}, append(slices.Clone(idsOf(full().l)), 480), slices.Repeat([]int{20}, 100)} {
		if got := full().with(func(w *world) { w.good = good }).tune(); got != (tuned{e: api.ErrArg}) {
			t.Error(good, got)
		}
	}
	for _, n := range odd(0, api.MaxId) {
		for _, good := range [][]int{{n}, {0, n}, {n, 20}} {
			if got := full().with(func(w *world) { w.good = good }).tune(); got != (tuned{e: api.ErrArg}) {
				t.Error(good, got)
			}
		}
	}
	for _, n := range odd(0, api.MaxFilings) {
		w := full().with(func(w *world) { w.most = n })
		if got := w.tune(); got != (tuned{e: api.ErrArg}) {
			t.Error(n, got)
		}
		if got := w.with(func(w *world) { w.good = nil }).tune(); got != (tuned{e: api.ErrArg}) {
			t.Error(n, got)
		}
	}
	for _, n := range []int{0, api.MaxFilings} {
		for _, good := range [][]int{nil, {0}, {460}, {0, 460}, idsOf(full().l)} {
			if got := full().with(func(w *world) { w.good, w.most = good, n }).tune(); got.e != api.OK {
				t.Error(n, good, got)
			}
		}
	}
}

// P8.2, P8.5: no filings are filings.
func TestNobody(t *testing.T) {
	w := world{h: exampleHunt(), strength: 1}
	if w.check() != api.OK || !same(w.rings(), rung{}) || w.tune() != (tuned{strength: 1}) {
		t.Error(w.check(), w.rings(), w.tune())
	}
	w.good = []int{0}
	if got := w.tune(); got != (tuned{e: api.ErrArg}) {
		t.Error(got)
	}
}
