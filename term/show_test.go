package term_test

import (
	"slices"
	"testing"

	"goodname/api"
)

// viewed is a world, and what is shown of the account 5 on a day.
type viewed struct {
	name string
	w    world
	day  int
	want api.View
}

func checkViews(t *testing.T, l []viewed) {
	t.Helper()
	r := newRandom(1)
	for _, x := range l {
		for range 4 {
			if v, e := x.w.show(5, x.day); e != api.OK || !same(v, x.want) {
				t.Error(x.name, v, e)
			}
			x.w.l = mixedUp(r, x.w.l)
		}
	}
}

// nothing is shown.
func nothing() api.View { return api.View{Ends: api.NeverEnds} }

// shows is a view by some facts until a day.
func shows(s api.State, ends int, ids ...int) api.View {
	return api.View{State: s, Shown: ids, Ends: ends}
}

// owes is the state of an account of which only what is owed is told.
func owes(x api.Told) api.State { return api.State{Owed: x, Is: api.AccountOpen} }

// P4.3: a fact is shown from the day on which it is known, and not before its
// About, until its last day.
func TestShownDays(t *testing.T) {
	for i, x := range []struct {
		w        world
		from, to int
	}{
		{landOne([]api.Law{law(api.RepOwed, api.BaseAbout, 7)}, owed(1, 8, 500)), 10, 15},
		{landOne([]api.Law{law(api.RepOwed, api.BaseMade, 7)}, owed(1, 8, 500)), 10, 17},
		{landOne([]api.Law{law(api.RepOwed, api.BaseAbout, 7)}, owed(1, 12, 500)), 12, 19},
		{landOne([]api.Law{law(api.RepOwed, api.BaseMade, 7)}, owed(1, 12, 500)), 12, 17},
		{landOne([]api.Law{law(api.RepOwed, api.BaseClosed, 7)}, owed(1, 8, 500), closed(2, 9)), 10, 16},
		{landOne([]api.Law{law(api.RepOwed, api.BaseClosed, 7)}, owed(1, 8, 500), closed(2, 18)), 10, 25},
		{landOne([]api.Law{law(api.RepOwed, api.BaseClosed, 7)}, owed(1, 8, 500), closed(2, 9, made(20))), 10, 19},
		{landOne([]api.Law{law(api.RepOwed, api.BaseClosed, 7)}, owed(1, 8, 500)), 10, 60},
		{landOne([]api.Law{law(api.RepOwed, api.BaseAbout, 0)}, owed(1, 10, 500)), 10, 10},
		{landOne([]api.Law{law(api.RepOwed, api.BaseMade, 0)}, owed(1, 10, 500)), 10, 10},
		{landOne([]api.Law{law(api.RepOwed, api.BaseMade, 40)}, owed(1, 8, 500), withdraw(3, 1, made(20))), 10, 19},
		{landOne([]api.Law{law(api.RepOwed, api.BaseAbout, 9)}, owed(1, 5, 500), correct(3, 1, 8, 400, made(12))), 10, 17},
		// Never: known too late, about a day that is too late, closed too early.
		{landOne([]api.Law{law(api.RepOwed, api.BaseAbout, 7)}, owed(1, 2, 500)), 1, 0},
		{landOne([]api.Law{law(api.RepOwed, api.BaseMade, 1)}, owed(1, 12, 500)), 1, 0},
		{landOne([]api.Law{law(api.RepOwed, api.BaseClosed, 7)}, owed(1, 8, 500), closed(2, 2)), 1, 0},
		{landOne([]api.Law{law(api.RepPaid, api.BaseMade, 7)}, owed(1, 8, 500)), 1, 0},
		{landOne(nil, owed(1, 8, 500)), 1, 0},
	} {
		for day := range 61 {
			var want []int
			if x.from <= day && day <= x.to {
				want = []int{1}
			}
			if v, e := x.w.show(5, day); e != api.OK || !slices.Equal(v.Shown, want) {
				t.Error(i, day, v, e)
			}
		}
	}
}

// P4.3: Shown are all facts that are shown, by their Ids.
func TestShownIds(t *testing.T) {
	w := landOne([]api.Law{law(api.RepOwed, api.BaseMade, 20), law(api.RepPaid, api.BaseMade, 20)},
		owed(30, 1, 5), owed(10, 4, 5), fact(api.RepPaid, 20, 3, 5), owed(40, 2, 5), owed(0, 5, 5), owed(15, 5, 5, on(6)), fact(api.RepLate, 12, 5, 5))
	w.homes = append(w.homes, api.Home{Account: 6, Land: 1})
	want := []int{0, 10, 20, 30, 40}
	if v, e := w.show(5, 10); e != api.OK || !slices.Equal(v.Shown, want) {
		t.Error(v, e)
	}
	if v, e := w.show(6, 10); e != api.OK || !slices.Equal(v.Shown, []int{15}) {
		t.Error(v, e)
	}
}

// P4.3: Ends is the day after the least last day, NeverEnds if there is none.
func TestEnds(t *testing.T) {
	never := law(api.RepDefault, api.BaseClosed, 0)
	for i, x := range []struct {
		w         world
		day, want int
	}{
		{landOne(nil), 10, api.NeverEnds},
		{landOne(nil, owed(1, 8, 5)), 10, api.NeverEnds},
		{landOne([]api.Law{law(api.RepOwed, api.BaseMade, 20)}), 10, api.NeverEnds},
		{landOne([]api.Law{law(api.RepOwed, api.BaseMade, 20)}, owed(1, 8, 5)), 10, 31},
		{landOne([]api.Law{law(api.RepOwed, api.BaseMade, 20)}, owed(1, 8, 5)), 30, 31},
		{landOne([]api.Law{law(api.RepOwed, api.BaseMade, 20)}, owed(1, 8, 5)), 31, api.NeverEnds},
		{landOne([]api.Law{law(api.RepOwed, api.BaseAbout, 20)}, owed(1, 8, 5), owed(2, 6, 5), owed(3, 7, 5)), 10, 27},
		{landOne([]api.Law{law(api.RepOwed, api.BaseAbout, 20)}, owed(1, 8, 5), owed(2, 6, 5), owed(3, 7, 5)), 27, 28},
		{landOne([]api.Law{law(api.RepOwed, api.BaseAbout, 20)}, owed(1, 8, 5), owed(2, 6, 5, on(6))), 10, 29},
		{landOne([]api.Law{law(api.RepOwed, api.BaseMade, 9)}, owed(1, 8, 5, made(20)), owed(2, 25, 5)), 20, 30},
		{landOne([]api.Law{never}, fact(api.RepDefault, 1, 8, 5)), 10, api.NeverEnds},
		{landOne([]api.Law{never}, fact(api.RepDefault, 1, 8, 5), fact(api.RepDefault, 2, 8, 5)), 10, api.NeverEnds},
		{landOne([]api.Law{law(api.RepOwed, api.BaseMade, 20), never}, fact(api.RepDefault, 1, 8, 5), owed(2, 8, 5)), 10, 31},
		{landOne([]api.Law{law(api.RepOwed, api.BaseMade, api.MaxDay)}, owed(1, 8, 5, made(api.MaxDay))), api.MaxDay, 2*api.MaxDay + 1},
		{landOne([]api.Law{law(api.RepOwed, api.BaseMade, api.MaxDay-10)}, owed(1, 8, 5)), api.MaxDay, api.MaxDay + 1},
	} {
		if v, e := x.w.show(5, x.day); e != api.OK || v.Ends != x.want {
			t.Error(i, v, e)
		}
	}
}

// P4.3: State is that of just the facts that are shown, as they stand.
func TestStateOfWhatIsShown(t *testing.T) {
	about := []api.Law{law(api.RepOwed, api.BaseAbout, 20)}
	from := []api.Law{law(api.RepOwed, api.BaseMade, 20)}
	one := []api.Report{owed(1, 8, 500), owed(2, 9, 600, made(5))}
	clash := []api.Report{owed(1, 8, 500), owed(2, 8, 520, by(71), made(12))}
	fixed := []api.Report{owed(1, 8, 500), correct(2, 1, 9, 520, made(12))}
	all := []api.Law{law(api.RepOpened, 2, 20), law(api.RepLimit, 2, 20), law(api.RepOwed, 2, 20), law(api.RepPaid, 2, 20), law(api.RepLate, 2, 20), law(api.RepDefault, 2, 20), law(api.RepClosed, 2, 20)}
	everything := []api.Report{fact(api.RepOpened, 1, 2, 0), fact(api.RepLimit, 2, 3, 30), owed(3, 4, 40), fact(api.RepPaid, 4, 5, 50), fact(api.RepPaid, 14, 5, 60, by(71)), fact(api.RepLate, 5, 6, 60), fact(api.RepDefault, 6, 7, 70), closed(7, 8)}
	checkViews(t, []viewed{
		{"nothing", landOne(about), 10, nothing()},
		{"nothing yet", landOne(about, owed(1, 8, 500)), 9, nothing()},
		{"one", landOne(about, owed(1, 8, 500)), 10, shows(owes(yes(500, 8, 1)), 29, 1)},
		{"the latest one", landOne(from, one...), 10, shows(owes(yes(600, 9, 2)), 26, 1, 2)},
		{"the latest one is forgotten", landOne(from, one...), 26, shows(owes(yes(500, 8, 1)), 31, 1)},
		{"one of the same day", landOne(from, clash...), 11, shows(owes(yes(500, 8, 1)), 31, 1)},
		{"two that differ", landOne(from, clash...), 12, shows(owes(api.Told{Known: api.KnownOpen, Since: 8, By: []int{1, 2}}), 31, 1, 2)},
		{"one of them is forgotten", landOne(from, clash...), 31, shows(owes(yes(520, 8, 2)), 33, 2)},
		{"not corrected yet", landOne(about, fixed...), 11, shows(owes(yes(500, 8, 1)), 29, 1)},
		{"corrected", landOne(about, fixed...), 12, shows(owes(yes(520, 9, 1)), 30, 1)},
		{"a kind without a law", landOne(about, owed(1, 8, 500), fact(api.RepDefault, 2, 8, 5)), 10, shows(owes(yes(500, 8, 1)), 29, 1)},
		{"all kinds", landOne(all, everything...), 10, shows(api.State{
			Opened: yes(0, 2, 1), Limit: yes(30, 3, 2), Owed: yes(40, 4, 3), Paid: api.Span{Lo: 50, Hi: 60}, Late: yes(60, 6, 5), Default: yes(70, 7, 6), Closed: yes(0, 8, 7), Is: api.AccountClosed,
		}, 31, 1, 2, 3, 4, 5, 6, 7, 14)},
		{"all kinds are forgotten", landOne(all, everything...), 31, nothing()},
		{"no payment is left out", landOne(all, fact(api.RepPaid, 1, 8, 5), fact(api.RepPaid, 2, 8, 6)), 10, shows(api.State{Paid: api.Span{Lo: 11, Hi: 11}, Is: api.AccountOpen}, 31, 1, 2)},
		{"late, and forgotten when", landOne([]api.Law{law(api.RepLate, api.BaseAbout, 20), law(api.RepDefault, api.BaseAbout, 5)}, fact(api.RepLate, 1, 8, 30), fact(api.RepDefault, 2, 9, 5)), 15, shows(api.State{Late: yes(30, 8, 1), Is: api.AccountLate}, 29, 1)},
	})
}
