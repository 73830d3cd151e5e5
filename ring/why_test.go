package ring_test

import (
	"testing"

	"goodname/api"
)

// P8.3: the chain is the strongest one, however long it is.
func TestWhyStrongest(t *testing.T) {
	// 1 and 9 are tied, but less than over 5, 3 and 7.
	l := of([]int{1, 3, 5, 7, 9}, tied{1, 9, 1}, tied{1, 5, 2}, tied{5, 3, 3}, tied{3, 7, 2}, tied{7, 9, 4})
	w := world{h: api.Hunt{Common: 24, Size: 2}, l: l}
	for i, x := range []struct {
		a, b int
		want []api.Tie
	}{
		{1, 9, []api.Tie{tie(1, 5, 2000), tie(5, 3, 3000), tie(3, 7, 2000), tie(7, 9, 4000)}},
		{9, 1, []api.Tie{tie(9, 7, 4000), tie(7, 3, 2000), tie(3, 5, 3000), tie(5, 1, 2000)}},
		{1, 3, []api.Tie{tie(1, 5, 2000), tie(5, 3, 3000)}},
		{3, 1, []api.Tie{tie(3, 5, 3000), tie(5, 1, 2000)}},
		{5, 3, []api.Tie{tie(5, 3, 3000)}},
		{7, 5, []api.Tie{tie(7, 3, 2000), tie(3, 5, 3000)}},
	} {
		if got := w.about(x.a, x.b).why(); !same(got, told{x.want, api.OK}) {
			t.Error(i, got)
		}
	}
}

// P8.3: a chain that is stronger by one is the strongest one, too.
func TestWhyStrongerByOne(t *testing.T) {
	// 1 and 3 share three parts that two others far away have, too: 333 each.
	l := []api.Filing{filing(1, 0, 5, 10, 11, 12), filing(2, 0, 5, 6), filing(3, 0, 6, 10, 11, 12), filing(4, 50, 10, 11, 12), filing(5, 99, 10, 11, 12)}
	w := world{h: api.Hunt{Window: 9, Common: 24, Size: 2}, l: l, a: 1, b: 3}
	if got := w.weight(); got != (weight{999, api.OK}) {
		t.Error(got)
	}
	if got := w.why(); !same(got, told{[]api.Tie{tie(1, 2, 1000), tie(2, 3, 1000)}, api.OK}) {
		t.Error(got)
	}
}

// P8.3: of the strongest chains the one with the fewest filings is told, though
// another one has stronger ties or lesser filings.
func TestWhyFewest(t *testing.T) {
	l := of([]int{1, 2, 3, 4, 9}, tied{1, 2, 3}, tied{2, 3, 3}, tied{3, 9, 1}, tied{1, 4, 1}, tied{4, 9, 1})
	w := world{h: api.Hunt{Common: 24, Size: 2}, l: l}
	if got := w.about(1, 9).why(); !same(got, told{[]api.Tie{tie(1, 4, 1000), tie(4, 9, 1000)}, api.OK}) {
		t.Error(got)
	}
	if got := w.about(9, 1).why(); !same(got, told{[]api.Tie{tie(9, 4, 1000), tie(4, 1, 1000)}, api.OK}) {
		t.Error(got)
	}
	if got := w.about(9, 2).why(); !same(got, told{[]api.Tie{tie(9, 3, 1000), tie(3, 2, 3000)}, api.OK}) {
		t.Error(got)
	}
}

// P8.3: of the strongest chains with the fewest filings the first one is told, by
// the first filing that differs, from whichever end it is asked for.
func TestWhyFirst(t *testing.T) {
	l := of([]int{2, 3, 4, 5, 6, 7, 8}, tied{2, 3, 1}, tied{3, 8, 1}, tied{2, 4, 1}, tied{4, 7, 1}, tied{8, 5, 1}, tied{5, 6, 1}, tied{7, 6, 2})
	w := world{h: api.Hunt{Common: 24, Size: 2}, l: l}
	for i, x := range []struct {
		a, b int
		want []api.Tie
	}{
		{2, 6, []api.Tie{tie(2, 4, 1000), tie(4, 7, 1000), tie(7, 6, 2000)}},
		{4, 5, []api.Tie{tie(4, 7, 1000), tie(7, 6, 2000), tie(6, 5, 1000)}},
		{4, 8, []api.Tie{tie(4, 2, 1000), tie(2, 3, 1000), tie(3, 8, 1000)}},
		{6, 3, []api.Tie{tie(6, 5, 1000), tie(5, 8, 1000), tie(8, 3, 1000)}},
	} {
		if got := w.about(x.a, x.b).why(); !same(got, told{x.want, api.OK}) {
			t.Error(i, got)
		}
	}
	// Four of a ring: there are two ways to the other side.
	four := of([]int{1, 2, 3, 4}, tied{1, 2, 1}, tied{2, 4, 1}, tied{4, 3, 1}, tied{3, 1, 1})
	w.l = four
	for i, x := range []struct{ a, over, b int }{{1, 2, 4}, {4, 2, 1}, {2, 1, 3}, {3, 1, 2}} {
		if got := w.about(x.a, x.b).why(); !same(got, told{[]api.Tie{tie(x.a, x.over, 1000), tie(x.over, x.b, 1000)}, api.OK}) {
			t.Error(i, got)
		}
	}
	// Two ways of three ties: the one that is first at its second filing is last
	// at the third one.
	w.l = of([]int{1, 2, 3, 5, 6, 9}, tied{1, 2, 1}, tied{2, 6, 1}, tied{6, 9, 1}, tied{1, 3, 1}, tied{3, 5, 1}, tied{5, 9, 1})
	if got := w.about(1, 9).why(); !same(got, told{[]api.Tie{tie(1, 2, 1000), tie(2, 6, 1000), tie(6, 9, 1000)}, api.OK}) {
		t.Error(got)
	}
	if got := w.about(9, 1).why(); !same(got, told{[]api.Tie{tie(9, 5, 1000), tie(5, 3, 1000), tie(3, 1, 1000)}, api.OK}) {
		t.Error(got)
	}
}

// P8.3: a chain does not need a ring, but ties.
func TestWhyWithoutRing(t *testing.T) {
	w := path().about(6, 4)
	w.h.Size = 24
	if got := w.why(); !same(got, told{[]api.Tie{tie(6, 2, 2000), tie(2, 4, 1000)}, api.OK}) {
		t.Error(got)
	}
	for _, x := range [][2]int{{5, 8}, {1, 5}, {8, 3}} {
		if got := w.about(x[0], x[1]).why(); !same(got, told{e: api.ErrNone}) {
			t.Error(x, got)
		}
	}
}

// P8.3: all filings there may be can be one chain, and the ties of the whole chain
// may be as weak as can be.
func TestWhyLongest(t *testing.T) {
	w := world{h: api.Hunt{Window: 10, Common: 24, Size: 2}}
	for i := range api.MaxFilings {
		w.l = append(w.l, filing(i, 10*i, 7+i/22))
	}
	w.a, w.b = 0, 21
	got := w.why()
	if got.e != api.OK || len(got.chain) != 21 {
		t.Fatal(got)
	}
	for i, x := range got.chain {
		if x != tie(i, i+1, 47) {
			t.Error(i, x)
		}
	}
	w.l = nil
	for i := range api.MaxFilings {
		w.l = append(w.l, filing(i, 0, i, i+1))
	}
	w.a, w.b = 23, 0
	got = w.why()
	if got.e != api.OK || len(got.chain) != 23 {
		t.Fatal(got)
	}
	for i, x := range got.chain {
		if x != tie(23-i, 22-i, 1000) {
			t.Error(i, x)
		}
	}
}

// P8.3: chains of some filings are as the chapter defines them, of all that there
// are.
func TestWhyAgain(t *testing.T) {
	r := newRandom(3)
	lengths := map[int]int{}
	for range 5000 {
		w := r.either(8)
		got, want := w.why(), whyAgain(w)
		if !same(got, want) {
			t.Fatal(w, got, want)
		}
		lengths[len(want.chain)]++
	}
	for n := range 5 {
		if lengths[n] < 40 {
			t.Error("too few chains", lengths)
		}
	}
}
