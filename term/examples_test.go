package term_test

import (
	"slices"
	"testing"

	"goodname/api"
)

// The world of the chapter's examples.
func exampleWorld() world {
	w := landOne([]api.Law{
		law(api.RepOpened, api.BaseAbout, 2000), law(api.RepOwed, api.BaseMade, 100), law(api.RepDefault, api.BaseClosed, 50), law(api.RepClosed, api.BaseAbout, 60),
	},
		fact(api.RepOpened, 1, 10, 0, made(10)),
		owed(2, 20, 500, made(22)),
		fact(api.RepPaid, 3, 25, 30, made(26)),
		fact(api.RepDefault, 4, 30, 500, made(31)),
		closed(5, 200, made(205)),
	)
	return w.still(90, api.StillClosed)
}

func TestExamplesOfLast(t *testing.T) {
	for i, x := range []struct {
		id, day int
		want    lasting
	}{
		{2, 50, lasting{122, api.OK}}, // DOC.md, example 4
		{4, 50, lasting{api.NeverEnds, api.OK}},
		{4, 205, lasting{250, api.OK}},
		{3, 50, lasting{0, api.ErrNone}},
	} {
		if n, e := exampleWorld().last(x.id, x.day); x.want != (lasting{n, e}) {
			t.Error(i, n, e)
		}
	}
}

func TestExamplesOfShow(t *testing.T) {
	opened, balance, failed := yes(0, 10, 1), yes(500, 20, 2), yes(500, 30, 4)
	quiet := api.Told{Known: api.KnownYes, Since: 121}
	for i, x := range []struct {
		day  int
		want api.View
	}{
		{50, api.View{State: api.State{Opened: opened, Owed: balance, Default: failed, Is: api.AccountDefault}, Shown: []int{1, 2, 4}, Ends: 123}},
		{121, api.View{State: api.State{Opened: opened, Owed: balance, Default: failed, Is: api.AccountDefault}, Shown: []int{1, 2, 4}, Ends: 123}},
		{122, api.View{State: api.State{Opened: opened, Owed: balance, Default: failed, Closed: quiet, Is: api.AccountClosed}, Shown: []int{1, 2, 4}, Ends: 123, Silent: true}},
		{123, api.View{State: api.State{Opened: opened, Default: failed, Closed: quiet, Is: api.AccountClosed}, Shown: []int{1, 4}, Ends: 2011, Silent: true}},
		{250, api.View{State: api.State{Opened: opened, Default: failed, Closed: yes(0, 200, 5), Is: api.AccountClosed}, Shown: []int{1, 4, 5}, Ends: 251}},
		{251, api.View{State: api.State{Opened: opened, Closed: yes(0, 200, 5), Is: api.AccountClosed}, Shown: []int{1, 5}, Ends: 261}},
	} {
		if v, e := exampleWorld().show(5, x.day); e != api.OK || !same(v, x.want) {
			t.Error(i, v, e)
		}
	}
}

func TestExampleOfGone(t *testing.T) {
	if l, e := exampleWorld().gone(251); e != api.OK || !slices.Equal(l, []int{2, 3, 4}) {
		t.Error(l, e)
	}
}
