package trial_test

import (
	"testing"

	"goodname/api"
)

// P7.4: the greatest difference of the parts whose scores are at most a number, in
// thousandths, rounded up.
func TestDrift(t *testing.T) {
	for i, x := range []struct {
		l, later []int // the accounts; the score of 9 is less than 0, of 8 it is 0
		want     int
	}{
		{[]int{1}, []int{1}, 0},
		{[]int{1}, []int{2}, 1000},
		{[]int{2}, []int{1}, 1000},
		{[]int{9}, []int{8}, 1000},
		{[]int{9, 9, 3}, []int{9, 3, 3}, 334},
		{[]int{1, 2}, []int{2, 3}, 500},
		{[]int{1, 2}, []int{1, 1, 2, 2}, 0},
		{[]int{1, 1, 2}, []int{1, 2, 2}, 334},
		{[]int{1, 2, 2}, []int{1, 1, 2}, 334},
		{[]int{1, 2, 3}, []int{2}, 334},
		{[]int{1, 2, 3}, []int{3}, 667},
		{[]int{1, 2, 3}, []int{1}, 667},
		// They differ the most at 1, by 1/2; at 2 it is 1/4 and at 8, before, 1/6.
		{[]int{8, 8, 1, 1, 2, 3, 3, 3, 3, 3, 3, 3}, []int{8, 8, 8, 8, 1, 1, 1, 1, 1, 1, 3, 3}, 500},
		{[]int{8, 2, 2, 2}, []int{8, 8, 3, 3, 3, 3, 3, 3}, 750},
		// The lists are of 7 and of 3: 3/7 - 1/3 is 2/21.
		{[]int{1, 1, 1, 2, 2, 2, 2}, []int{1, 2, 2}, 96},
		// 6/7 less 5/6 is 1/42, and 1/7 less 1/6 the same.
		{[]int{1, 1, 1, 1, 1, 1, 2}, []int{1, 1, 1, 1, 1, 2}, 24},
		{[]int{1, 2, 2, 2, 2, 2, 2}, []int{1, 2, 2, 2, 2, 2}, 24},
		// 29/30 less 28/29 is 1/870.
		{append(repeat(1, 29), 2), append(repeat(1, 28), 2), 2},
		{append(repeat(1, 29), 2), repeat(1, 30), 34},
		{append(repeat(1, 7), 2), repeat(1, 30), 125},
	} {
		w := world{p: ladder(api.TraitOwed, 1, 2), r: debts(), l: owing(x.l...), later: owing(x.later...)}
		if got := w.drift(); got != (drifted{x.want, api.OK}) {
			t.Error(i, got)
		}
	}
}

func repeat(x, n int) []int {
	var l []int
	for range n {
		l = append(l, x)
	}
	return l
}

// P7.4: scores tell, not answers: people with the same answer drift, too; and two
// scores that differ by a thousandth do.
func TestDriftOfScores(t *testing.T) {
	for i, p := range []api.Plan{ladder(api.TraitOwed, 1, 9), ladder(api.TraitOwed, 1, -9)} {
		w := world{p: p, r: debts(), l: owing(1, 2, 3), later: owing(3, 3, 3)}
		if got := w.drift(); got != (drifted{667, api.OK}) {
			t.Error(i, got)
		}
	}
	p := ladder(api.TraitOwed, 1, 0)
	p.Model.Cards[0].Weight = 1
	w := world{p: p, r: debts(), l: owing(2), later: owing(1)}
	if got := w.drift(); got != (drifted{1000, api.OK}) {
		t.Error(got)
	}
	w.p.Model.Cards[0].Weight = 0
	if got := w.drift(); got != (drifted{0, api.OK}) {
		t.Error(got)
	}
}

// P7.4: the scores of each one are those of its day.
func TestDriftByDays(t *testing.T) {
	r := []api.Report{owed(1, 10, 10, 1), owed(2, 20, 20, 2), owed(3, 30, 30, 3)}
	w := world{p: ladder(api.TraitOwed, 1, 0), r: r}
	w.l = []api.Applicant{person(9, 0, 10), person(10, 0, 10), person(20, 0, 10), person(30, 0, 10)}
	for day, want := range map[int]int{0: 750, 9: 750, 10: 500, 19: 500, 20: 500, 30: 750, api.MaxDay: 750} {
		w.later = []api.Applicant{person(day, 0, 10)}
		if got := w.drift(); got != (drifted{want, api.OK}) {
			t.Error(day, got)
		}
	}
}

// P7.4: the drift of many lists is as the chapter defines it.
func TestDriftAgain(t *testing.T) {
	r := newRandom(4)
	seen := map[int]bool{}
	for range 600 {
		w := r.world()
		got, want := w.drift(), driftAgain(w)
		if got != (drifted{want, api.OK}) {
			t.Fatal(w, got, want)
		}
		seen[want] = true
	}
	if len(seen) < 80 {
		t.Error("too few drifts", len(seen))
	}
}
