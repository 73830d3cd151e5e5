package ring_test

import (
	"testing"

	"goodname/api"
)

// P8.4: the group of each filing, and by how much somebody is nearest to it; Size
// does not count.
func TestApart(t *testing.T) {
	everybody := []int{1, 2, 3, 4, 6, 7}
	for i, x := range []struct {
		id, strength int
		group        []int
		next         int
	}{
		{1, 1, everybody, 0}, {4, 1000, everybody, 0}, {7, 1000, everybody, 0},
		{1, 1001, []int{1, 7}, 1000}, {7, 2000, []int{1, 7}, 1000}, {4, 2000, []int{3, 4}, 1000}, {6, 1001, []int{2, 6}, 1000},
		{1, 2001, []int{1}, 2000}, {7, 2001, []int{7}, 2000}, {2, 3000, []int{2}, 2000}, {3, 3000, []int{3, 4}, 1000},
		{3, 3001, []int{3}, 3000}, {4, api.MaxStrength, []int{4}, 3000}, {2, api.MaxStrength, []int{2}, 2000},
		{5, 1, []int{5}, 0}, {8, api.MaxStrength, []int{8}, 0},
	} {
		for _, size := range []int{2, 24} {
			w := path().about(x.id, 0).at(x.strength)
			w.h.Size = size
			if got := w.apart(); !same(got, apart{x.group, x.next, api.OK}) {
				t.Error(i, got)
			}
		}
	}
}

// P8.4: nobody is next if all are in one group, also if there is just one.
func TestApartOfAll(t *testing.T) {
	w := world{h: api.Hunt{Common: 24, Size: 2}, l: of([]int{3, 5, 8}, tied{3, 8, 1}, tied{8, 5, 2}), a: 5, strength: 1000}
	if got := w.apart(); !same(got, apart{[]int{3, 5, 8}, 0, api.OK}) {
		t.Error(got)
	}
	w.l = w.l[1:2]
	if got := w.apart(); !same(got, apart{[]int{5}, 0, api.OK}) {
		t.Error(got)
	}
}

// P8.4: groups of many filings are as the chapter defines them.
func TestApartAgain(t *testing.T) {
	r := newRandom(4)
	var alone, some, everybody, next int
	for range 1500 {
		w := r.either(24)
		got, want := w.apart(), apartAgain(w)
		if !same(got, want) {
			t.Fatal(w, got, want)
		}
		switch len(want.group) {
		case 1:
			alone++
		case len(w.l):
			everybody++
		default:
			some++
		}
		if want.next > 0 {
			next++
		}
	}
	if min(alone, some, everybody, next) < 50 {
		t.Error("too few groups", alone, some, everybody, next)
	}
}
