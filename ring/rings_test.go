package ring_test

import (
	"testing"

	"goodname/api"
)

// path are six filings in a row that is not their order, and two that are alone.
// The ties weigh 2,000, 1,000, 3,000, 1,000 and 2,000.
func path() world {
	l := of([]int{1, 2, 3, 4, 5, 6, 7, 8}, tied{6, 2, 2}, tied{2, 4, 1}, tied{4, 3, 3}, tied{3, 7, 1}, tied{7, 1, 2})
	return world{h: api.Hunt{Common: 24, Size: 2}, l: l, strength: 1}
}

// P8.2: rings are in order, and so are their filings; who is tied to one of a ring
// is of it, whoever comes first.
func TestRings(t *testing.T) {
	for i, x := range []struct {
		size, strength int
		want           [][]int
	}{
		{2, 1, [][]int{{1, 2, 3, 4, 6, 7}}}, {2, 1000, [][]int{{1, 2, 3, 4, 6, 7}}}, {6, 1000, [][]int{{1, 2, 3, 4, 6, 7}}}, {7, 1, nil}, {24, 1, nil},
		{2, 1001, [][]int{{1, 7}, {2, 6}, {3, 4}}}, {2, 2000, [][]int{{1, 7}, {2, 6}, {3, 4}}}, {3, 1001, nil},
		{2, 2001, [][]int{{3, 4}}}, {2, 3000, [][]int{{3, 4}}}, {2, 3001, nil}, {2, api.MaxStrength, nil},
	} {
		w := path().at(x.strength)
		w.h.Size = x.size
		if got := w.rings(); !same(got, rung{x.want, api.OK}) {
			t.Error(i, got)
		}
	}
}

// P8.2: all filings there may be can be one ring, or twelve.
func TestRingsOfAll(t *testing.T) {
	w := full().at(1)
	w.h.Common, w.h.Size = 3, 2
	var want [][]int
	for i := range 12 {
		want = append(want, []int{40 * i, 40*i + 20})
	}
	if got := w.rings(); !same(got, rung{want, api.OK}) {
		t.Error(got)
	}
	w.h.Common, w.h.Size = 24, 24
	if got := w.rings(); !same(got, rung{[][]int{idsOf(w.l)}, api.OK}) {
		t.Error(got)
	}
}

// P8.2: rings of many filings are as the chapter defines them, at each strength at
// which they may be others.
func TestRingsAgain(t *testing.T) {
	r := newRandom(2)
	var none, one, several int
	for range 300 {
		w := r.either(24)
		weights := weightsAgain(w)
		for _, n := range []int{1, 250, 333, 334, 500, 501, 1000, 1001, w.strength, api.MaxStrength} {
			want := ringsAgain(w, weights, n)
			if got := w.at(n).rings(); !same(got, rung{want, api.OK}) {
				t.Fatal(w, n, got, want)
			}
			switch len(want) {
			case 0:
				none++
			case 1:
				one++
			default:
				several++
			}
		}
	}
	if min(none, one, several) < 200 {
		t.Error("too few rings", none, one, several)
	}
}
