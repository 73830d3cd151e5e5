package trial_test

import (
	"testing"

	"goodname/api"
)

// P7.3: the first index is told by p, the second one by q.
func TestBoth(t *testing.T) {
	for i, x := range []struct {
		p, q int // what they need
		want [2][2]int
	}{
		{2, 2, [2][2]int{{3, 0}, {0, 2}}},
		{2, 0, [2][2]int{{1, 2}, {0, 2}}},
		{0, 2, [2][2]int{{1, 0}, {2, 2}}},
		{4, -1, [2][2]int{{0, 5}, {0, 0}}},
		{-1, 4, [2][2]int{{0, 0}, {5, 0}}},
		{-1, -1, [2][2]int{{0, 0}, {0, 5}}},
		{4, 4, [2][2]int{{5, 0}, {0, 0}}},
	} {
		w := world{p: ladder(api.TraitOwed, 1, x.p), q: ladder(api.TraitOwed, 1, x.q), r: debts(), l: owing(9, 1, 8, 2, 3)}
		if got := w.both(); got != (beside{x.want, api.OK}) {
			t.Error(i, got)
		}
	}
}

// P7.3: two plans of other traits, of which each is one's own.
func TestBothOfOtherTraits(t *testing.T) {
	r := append(debts(), opened(20, 1, 1, on(1)), opened(21, 2, 2, on(3)), opened(22, 4, 4, on(9)))
	w := world{p: ladder(api.TraitOwed, 1, 1), q: ladder(api.TraitAge, 1, 3), r: r, l: owing(1, 2, 3, 9, 8)}
	w.q.Wait = 99
	w.q.Model = cardOf(3, scale(-1, 0, 1, 1, 2, 2, 3, 3), scale(0, 0))
	w.q.Traits = append(w.q.Traits, trait(api.TraitLate, 4))
	// Owed are 1, 2, 3, open and 0; it is 4 and 3 days old, 1 day, and unknown else.
	if got := w.both(); got != (beside{[2][2]int{{2, 0}, {1, 2}}, api.OK}) {
		t.Error(got)
	}
}

// P7.3: both answers to many people are as the chapter defines them.
func TestBothAgain(t *testing.T) {
	r := newRandom(3)
	var all [2][2]int
	for range 500 {
		w := r.world()
		got, want := w.both(), bothAgain(w)
		if got != (beside{want, api.OK}) {
			t.Fatal(w, got, want)
		}
		for i := range want {
			for k := range want[i] {
				all[i][k] += want[i][k]
			}
		}
	}
	if min(all[0][0], all[0][1], all[1][0], all[1][1]) < 200 {
		t.Error("too few have some answers", all)
	}
}
