package inquiry_test

import (
	"testing"

	"goodname/api"
	"goodname/inquiry"
)

// P9.1: all signals of both lists are there, each one once, by Bureau, and of the
// same Bureau by Id.
func TestMerge(t *testing.T) {
	a, b, c, d := freeze(0, 3, 50), thaw(0, 9, 20), alert(1, 1, 30, 40), clearing(2, 0, 5)
	for i, x := range []struct{ a, b, want []api.Signal }{
		{nil, nil, nil},
		{[]api.Signal{a}, nil, []api.Signal{a}},
		{[]api.Signal{a}, []api.Signal{a}, []api.Signal{a}},
		{[]api.Signal{a, b, c, d}, nil, []api.Signal{a, b, c, d}},
		{[]api.Signal{a, c}, []api.Signal{b, d}, []api.Signal{a, b, c, d}},
		{[]api.Signal{c, d}, []api.Signal{a, b}, []api.Signal{a, b, c, d}},
		{[]api.Signal{a, b, d}, []api.Signal{b, c}, []api.Signal{a, b, c, d}},
		{[]api.Signal{a, b, c, d}, []api.Signal{a, b, c, d}, []api.Signal{a, b, c, d}},
		{[]api.Signal{freeze(1, 7, 5)}, []api.Signal{freeze(2, 7, 5)}, []api.Signal{freeze(1, 7, 5), freeze(2, 7, 5)}},
		{[]api.Signal{freeze(1, 7, 5)}, []api.Signal{freeze(1, 8, 5)}, []api.Signal{freeze(1, 7, 5), freeze(1, 8, 5)}},
		{[]api.Signal{freeze(2, 1, 5)}, []api.Signal{freeze(1, 9, 5)}, []api.Signal{freeze(1, 9, 5), freeze(2, 1, 5)}},
	} {
		there, e := inquiry.Merge(x.a, x.b)
		back, f := inquiry.Merge(x.b, x.a)
		if !same(there, x.want) || !same(back, x.want) || e != api.OK || f != api.OK {
			t.Error(i, there, e, back, f)
		}
	}
}

// P9.1: a signal that differs from one with the same Bureau and Id in anything is
// wrong, wherever it is.
func TestMergeOfSignalsThatDiffer(t *testing.T) {
	for i, change := range []func(s *api.Signal){
		func(s *api.Signal) { s.File = 6 },
		func(s *api.Signal) { s.Day = 21 },
		func(s *api.Signal) { s.Kind = api.SignalAlert },
		func(s *api.Signal) { s.Kind, s.Until = api.SignalThaw, 0 },
		func(s *api.Signal) { s.Until = 41 },
	} {
		for at := range 3 {
			l := []api.Signal{lift(1, 1, 20, 40), lift(1, 2, 20, 40), lift(2, 1, 20, 40)}
			other := lift(l[at].Bureau, l[at].Id, 20, 40)
			change(&other)
			for k, m := range [][]api.Signal{{other}, {freeze(0, 0, 1), other}, {other, freeze(3, 0, 1)}} {
				there, e := inquiry.Merge(l, m)
				back, f := inquiry.Merge(m, l)
				if e != api.ErrSignals || f != api.ErrSignals || len(there) > 0 || len(back) > 0 {
					t.Error(i, at, k, there, e, back, f)
				}
			}
		}
	}
}

// P9.1: each list has to be valid, though the other one is, and both together are
// at most 40; those that differ come before that.
func TestErrorsOfMerge(t *testing.T) {
	of := func(bureau, from, n int) []api.Signal {
		var l []api.Signal
		for i := range n {
			l = append(l, freeze(bureau, from+i, 7))
		}
		return l
	}
	for i, x := range []struct {
		a, b []api.Signal
		n    int
		e    api.Errno
	}{
		{of(1, 0, 40), nil, 40, api.OK},
		{of(1, 0, 20), of(2, 0, 20), 40, api.OK},
		{of(1, 0, 40), of(1, 0, 40), 40, api.OK},
		{of(1, 0, 40), of(1, 39, 1), 40, api.OK},
		{of(1, 0, 30), of(1, 10, 30), 40, api.OK},
		{of(1, 0, 40), of(1, 40, 1), 0, api.ErrMany},
		{of(1, 0, 40), of(2, 0, 1), 0, api.ErrMany},
		{of(1, 0, 40), of(1, 1, 40), 0, api.ErrMany},
		{of(1, 0, 21), of(2, 0, 20), 0, api.ErrMany},
		{of(1, 0, 40), of(2, 0, 40), 0, api.ErrMany},
		{of(1, 0, 41), nil, 0, api.ErrSignals},
		{of(1, 0, 41), of(1, 0, 41), 0, api.ErrSignals},
		{of(1, 0, 2), append(of(1, 0, 2), freeze(1, 1, 7)), 0, api.ErrSignals},
		{of(1, 0, 2), []api.Signal{freeze(1, 1, 7), freeze(1, 0, 7)}, 0, api.ErrSignals},
		{of(1, 0, 2), make([]api.Signal, 1), 0, api.ErrSignals},
		{of(1, 0, 40), []api.Signal{freeze(1, 39, 8), freeze(2, 0, 7)}, 0, api.ErrSignals},
		{of(1, 0, 40), append(of(1, 1, 39), thaw(1, 40, -1)), 0, api.ErrSignals},
	} {
		there, e := inquiry.Merge(x.a, x.b)
		back, f := inquiry.Merge(x.b, x.a)
		if len(there) != x.n || len(back) != x.n || e != x.e || f != x.e {
			t.Error(i, there, e, back, f)
		}
	}
}

// P9.1: merges of any two lists are as the definitions tell.
func TestMergeAgain(t *testing.T) {
	r := newRandom(1)
	seen := map[api.Errno]int{}
	for range 4000 {
		w := r.world()
		if r.Intn(3) == 0 {
			all := r.signals(50)
			w.g.Signals, w.other = r.part(all, 3+r.Intn(38)), r.part(all, 3+r.Intn(38))
		}
		if r.Intn(3) == 0 && len(w.other) > 0 {
			w.other[r.Intn(len(w.other))].Day = 0
		}
		want := mergeAgain(w.g.Signals, w.other)
		if got := w.merge(); !same(got, want) {
			t.Fatal(w, got, want)
		}
		seen[want.e]++
	}
	if min(seen[api.OK], seen[api.ErrSignals], seen[api.ErrMany]) < 100 {
		t.Error("too few", seen)
	}
}
