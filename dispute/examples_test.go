package dispute_test

import (
	"slices"
	"testing"

	"goodname/api"
)

// The desk of the chapter's examples.
func exampleWorld() world {
	w := quarrel([]api.Report{
		owed(1, 10, 500, made(12)), fact(api.RepLate, 2, 20, 40, made(22)), fact(api.RepDefault, 3, 25, 500, made(26)),
	}, []api.Dispute{contest(51, 1, 40), contest(52, 2, 41), contest(53, 3, 42)},
		fixes(1, 51, 50, 10, 450), drops(2, 52, 72), stands(3, 53, 60), drops(4, 53, 61))
	w.d.Terms = api.Terms{Answer: 30, Mark: 100, Lately: 60}
	return w.told(asks(5, 900, 15), asks(6, 900, 45), asks(7, 901, 55), api.Asked{Id: 8, Who: 902, Account: 6, Day: 45})
}

func TestExamplesOfWhere(t *testing.T) {
	for i, x := range []struct {
		id, day int
		want    whereabouts
	}{
		{51, 49, whereabouts{api.DisputeOpen, 50, api.OK}},
		{52, 71, whereabouts{api.DisputeOpen, 72, api.OK}}, // DOC.md, example 5
		{52, 72, whereabouts{api.DisputeSilent, 72, api.OK}},
		{53, 90, whereabouts{api.DisputeStands, 60, api.OK}},
	} {
		if got := exampleWorld().where(x.id, x.day); got != x.want {
			t.Error(i, got)
		}
	}
}

func TestExamplesOfLists(t *testing.T) {
	w := exampleWorld()
	if l, e := w.due(45); e != api.OK || !slices.Equal(l, []int{51, 52, 53}) {
		t.Error(l, e)
	}
	want := append(exampleWorld().d.Reports, correct(51, 1, 10, 450, made(50)), withdraw(52, 2, made(72)))
	if l, e := w.follow(72); e != api.OK || !slices.Equal(l, want) {
		t.Error(l, e)
	}
	letters := []api.Letter{{Dispute: 51, Who: 900, Asked: 5}, {Dispute: 52, Who: 900, Asked: 6}, {Dispute: 52, Who: 901, Asked: 7}}
	if l, e := w.letters(72); e != api.OK || !slices.Equal(l, letters) {
		t.Error(l, e)
	}
}

func TestExamplesOfMark(t *testing.T) {
	for i, x := range []struct {
		id, day int
		want    uint8
	}{{3, 60, api.DisputeStands}, {3, 160, api.DisputeStands}, {3, 161, api.DisputeNone}, {1, 50, api.DisputeNone}} {
		if got := exampleWorld().mark(x.id, x.day); got != (marking{x.want, api.OK}) {
			t.Error(i, got)
		}
	}
}
