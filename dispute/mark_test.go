package dispute_test

import (
	"testing"

	"goodname/api"
)

// P5.4: the mark of a fact on each of the days from 10 on, by one letter a day:
// open (o), stands (s), or none (-).
func TestMark(t *testing.T) {
	letters := map[uint8]byte{api.DisputeNone: '-', api.DisputeOpen: 'o', api.DisputeStands: 's'}
	two := []api.Dispute{contest(51, 1, 12), contest(52, 1, 14)}
	for i, x := range []struct {
		disputes []api.Dispute
		answers  []api.Answer
		want     string
	}{
		{nil, nil, "------------"},
		{two[:1], nil, "--oooooo----"},
		{two[:1], []api.Answer{drops(1, 51, 14)}, "--oo--------"},
		{two[:1], []api.Answer{fixes(1, 51, 13, 8, 1)}, "--o---------"},
		{two[:1], []api.Answer{stands(1, 51, 14)}, "--oossss----"},
		{two[:1], []api.Answer{stands(1, 51, 17)}, "--ooooossss-"},
		{two[:1], []api.Answer{stands(1, 51, 12)}, "--ssss------"},
		{two[:1], []api.Answer{drops(1, 51, 12)}, "------------"},
		// Another dispute that is open comes first, wherever it is in the list.
		{two, []api.Answer{stands(1, 51, 13), stands(2, 52, 15)}, "--osossss---"},
		{two, []api.Answer{stands(1, 51, 13), drops(2, 52, 15)}, "--ososs-----"},
		{two, []api.Answer{drops(1, 51, 13), stands(2, 52, 15)}, "--o-ossss---"},
		{two, []api.Answer{stands(1, 51, 13), drops(2, 52, 18)}, "--osoooo----"},
		{two, []api.Answer{stands(1, 51, 17), stands(2, 52, 14)}, "--ooooossss-"},
		{two, []api.Answer{stands(1, 51, 12), stands(2, 52, 14)}, "--ssssss----"},
	} {
		for range 2 {
			w := quarrel([]api.Report{owed(1, 8, 100), owed(2, 8, 9)}, x.disputes, x.answers...)
			got := ""
			for day := range x.want {
				m := w.mark(1, 10+day)
				if m.e != api.OK || w.mark(2, 10+day) != (marking{}) {
					t.Error(i, day, m)
				}
				got += string(letters[m.mark])
			}
			if got != x.want {
				t.Error(i, got, x.want)
			}
			x.disputes = mixedUp(newRandom(2), x.disputes)
		}
	}
}

// P5.4: a mark may stay for no day more, or for as long as there are days.
func TestMarkOfTerms(t *testing.T) {
	for _, x := range []struct {
		term, day int
		want      uint8
	}{{0, 13, api.DisputeStands}, {0, 14, api.DisputeNone}, {1, 14, api.DisputeStands}, {1, 15, api.DisputeNone}, {api.MaxDay, api.MaxDay, api.DisputeStands}, {api.MaxDay - 13, api.MaxDay, api.DisputeStands}, {api.MaxDay - 14, api.MaxDay, api.DisputeNone}} {
		w := one(stands(1, 51, 13))
		w.d.Terms.Mark = x.term
		if got := w.mark(1, x.day); got != (marking{x.want, api.OK}) {
			t.Error(x, got)
		}
	}
}

// P5.4: ErrNone if there is no fact with the Id. A fact has a mark, or none, on
// days on which it is not known yet, and on which it stands no longer, too.
func TestMarkOfNone(t *testing.T) {
	w := one(stands(7, 51, 13))
	w.d.Reports = append(asIs(w.d.Reports), correct(2, 1, 8, 9), withdraw(3, 1), withdraw(4, 99), owed(6, 8, 1, made(500)))
	for _, day := range []int{0, 9, 12, 13, api.MaxDay} {
		for _, id := range append(odd(0, api.MaxId), 0, 2, 3, 4, 5, 7, 51, 99) {
			if got := w.mark(id, day); got != (marking{e: api.ErrNone}) {
				t.Error(id, day, got)
			}
		}
		if got := w.mark(6, day); got != (marking{}) {
			t.Error(day, got)
		}
	}
	if got := w.mark(1, 14); got != (marking{mark: api.DisputeStands}) {
		t.Error(got)
	}
}
