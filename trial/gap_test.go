package trial_test

import (
	"testing"

	"goodname/api"
)

// asked is somebody of a group to whom the answer is yes, or no.
func asked(group int, yes ...bool) []api.Applicant {
	var l []api.Applicant
	for _, is := range yes {
		account := 1
		if is {
			account = 2
		}
		l = append(l, person(5, group, account))
	}
	return l
}

func join(l ...[]api.Applicant) []api.Applicant {
	var out []api.Applicant
	for _, x := range l {
		out = append(out, x...)
	}
	return out
}

// P7.5: the greatest part of a group to whom the answer is yes, less the least one,
// in thousandths, rounded up; and the groups, the least ones of several.
func TestGap(t *testing.T) {
	const y, n = true, false
	for i, x := range []struct {
		l              []api.Applicant
		gap, high, low int
	}{
		{asked(0, y), 0, 0, 0},
		{asked(9, n), 0, 9, 9},
		{asked(7, y, n, n), 0, 7, 7},
		{join(asked(1, y), asked(2, n)), 1000, 1, 2},
		{join(asked(1, n), asked(2, y)), 1000, 2, 1},
		{join(asked(9, n), asked(0, y)), 1000, 0, 9},
		{join(asked(0, n), asked(9, y)), 1000, 9, 0},
		// Groups of which the parts are the same.
		{join(asked(5, y), asked(3, y), asked(8, y)), 0, 3, 3},
		{join(asked(5, n), asked(3, n), asked(8, n, n)), 0, 3, 3},
		{join(asked(5, y, n), asked(3, y, y, n, n)), 0, 3, 3},
		{join(asked(5, y), asked(4, n), asked(3, y), asked(2, n)), 1000, 3, 2},
		{join(asked(6, y, y), asked(2, y), asked(4, n), asked(9, n, n, n)), 1000, 2, 4},
		{join(asked(4, y, n, n), asked(1, y, y, n, n, n, n), asked(3, y, y, n), asked(2, y, y, y, y, n, n)), 334, 2, 1},
		// 1/2 less 1/3, 2/3 less 1/2, 1/30 and 1/29.
		{join(asked(1, y, n), asked(2, y, n, n)), 167, 1, 2},
		{join(asked(1, y, n), asked(2, y, y, n)), 167, 2, 1},
		{join(asked(1, asks(1, 15)...), asked(2, asks(1, 14)...)), 5, 2, 1},
		{join(asked(1, asks(0, 15)...), asked(2, asks(1, 15)...)), 67, 2, 1},
		{join(asked(1, asks(14, 15)...), asked(2, asks(15, 15)...)), 67, 2, 1},
		// In the middle nothing is told.
		{join(asked(1, y, n), asked(2, y), asked(3, n)), 1000, 2, 3},
		{join(asked(1, y), asked(2, y, n), asked(3, n)), 1000, 1, 3},
		// More of them, but a smaller part.
		{join(asked(1, y, y, y, n), asked(2, y)), 250, 2, 1},
		{join(asked(1, y), asked(2, n), asked(1, n)), 500, 1, 2},
	} {
		w := world{p: ladder(api.TraitOwed, 1, 2), r: debts(), l: x.l}
		if got := w.gap(); got != (gapped{x.gap, x.high, x.low, api.OK}) {
			t.Error(i, got)
		}
	}
}

// asks are answers to so many, to some of whom it is yes.
func asks(yes, all int) []bool {
	l := make([]bool, all)
	for i := range yes {
		l[i] = true
	}
	return l
}

// P7.5: gaps of many people are as the chapter defines them.
func TestGapAgain(t *testing.T) {
	r := newRandom(5)
	seen := map[gapped]bool{}
	for range 1000 {
		w := r.world()
		got, want := w.gap(), gapAgain(w)
		if got != want {
			t.Fatal(w, got, want)
		}
		seen[want] = true
	}
	if len(seen) < 100 {
		t.Error("too few gaps", len(seen))
	}
}
