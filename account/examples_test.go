package account_test

import (
	"testing"

	"goodname/account"
	"goodname/api"
)

// The reports of the chapter's examples.
func exampleReports() []api.Report {
	return []api.Report{
		opened(1, 8, made(10)),
		owed(2, 15, 500, made(20)),
		owed(3, 15, 520, made(21), by(80)),
		late(4, 29, 35, made(30)),
		correct(5, 2, 15, 520, made(40)),
		withdraw(6, 4, made(41)),
		paid(7, 45, 100, made(50)),
		paid(8, 45, 100, made(50), by(80)),
		paid(9, 45, 30, made(51), by(80)),
	}
}

func TestExamplesOfState(t *testing.T) {
	for i, x := range []struct {
		day, known int
		want       api.State
	}{
		// DOC.md, example 3: 500 by one source, and 520 by another one: open, by both.
		{20, 25, api.State{Opened: yes(0, 8, 1), Owed: open(15, 2, 3), Is: api.AccountOpen}},
		{30, 35, api.State{Opened: yes(0, 8, 1), Owed: open(15, 2, 3), Late: yes(35, 29, 4), Is: api.AccountLate}},
		{30, 45, api.State{Opened: yes(0, 8, 1), Owed: yes(520, 15, 2, 3), Is: api.AccountOpen}},
		{60, 60, api.State{Opened: yes(0, 8, 1), Owed: yes(520, 15, 2, 3), Paid: api.Span{Lo: 100, Hi: 130}, Is: api.AccountOpen}},
	} {
		if s, e := account.State(exampleReports(), 5, x.day, x.known); e != api.OK || !same(s, x.want) {
			t.Error(i, s, e)
		}
	}
}

func TestExamplesOfFate(t *testing.T) {
	for i, x := range []struct {
		id, known int
		want      fated
	}{
		{2, 45, fated{api.FateCorrected, 5, api.OK}},
		{4, 45, fated{api.FateWithdrawn, 6, api.OK}},
		{6, 45, fated{api.FateWorks, -1, api.OK}},
		{5, 39, fated{0, 0, api.ErrNone}},
	} {
		if f, by, e := account.Fate(exampleReports(), x.id, x.known); x.want != (fated{f, by, e}) {
			t.Error(i, f, by, e)
		}
	}
}

func TestExampleOfClashes(t *testing.T) {
	l, e := account.Clashes(exampleReports(), 5, 60)
	if e != api.OK || !same(l, []api.Clash{{Kind: api.RepPaid, About: 45, By: []int{7, 8, 9}}}) {
		t.Error(l, e)
	}
}
