package term_test

import (
	"slices"
	"testing"

	"goodname/api"
)

// silent is a view in which nothing was heard for too long.
func silent(v api.View) api.View {
	v.Silent = true
	return v
}

// quiet is what silence tells from a day on.
func quiet(day int) api.Told { return api.Told{Known: api.KnownYes, Since: day} }

// keepsAll has laws by which nothing is forgotten until the day 1000.
func keepsAll(l ...api.Report) world {
	var laws []api.Law
	for kind := uint8(api.RepOpened); kind <= api.RepClosed; kind++ {
		laws = append(laws, law(kind, api.BaseAbout, 2000))
	}
	return landOne(laws, l...)
}

// days are those from one until another one, both included.
func days(from, to int) []api.Span { return []api.Span{{Lo: from, Hi: to}} }

// silentDays are the days below 100 on which the account 5 is silent.
func silentDays(t *testing.T, w world) []api.Span {
	t.Helper()
	var out []api.Span
	was := false
	for day := range 100 {
		v, e := w.show(5, day)
		if e != api.OK {
			t.Fatal(w, day, e)
		}
		if v.Silent && !was {
			out = append(out, api.Span{Lo: day})
		}
		if v.Silent {
			out[len(out)-1].Hi = day
		}
		was = v.Silent
	}
	return out
}

// P4.3 and P4.10: an account falls silent if nothing was heard of it for more
// than its land's days.
func TestWhenSilent(t *testing.T) {
	short := []api.Law{law(api.RepOwed, api.BaseAbout, 50), law(api.RepPaid, api.BaseMade, 3), law(api.RepClosed, api.BaseMade, 10)}
	homeless, abroad := keepsAll(owed(1, 8, 5)).still(4, api.StillPaid), keepsAll(owed(1, 8, 5)).still(4, api.StillPaid)
	homeless.homes = []api.Home{{Account: 6, Land: 1}}
	abroad.code.Stills[0].Land = 2
	for _, x := range []struct {
		name string
		w    world
		want []api.Span
	}{
		{"from the day after its days", keepsAll(owed(1, 8, 5)).still(4, api.StillPaid), days(15, 99)},
		{"after one day", keepsAll(owed(1, 8, 5)).still(1, api.StillPaid), days(12, 99)},
		{"made on the day 0", keepsAll(owed(1, 0, 5, made(0))).still(1, api.StillPaid), days(2, 99)},
		{"it means nothing", keepsAll(owed(1, 8, 5)).still(4, api.StillNothing), days(15, 99)},
		{"it means a closing", keepsAll(owed(1, 8, 5)).still(4, api.StillClosed), days(15, 99)},
		{"heard again in time", keepsAll(owed(1, 8, 5), owed(2, 7, 5, made(14))).still(4, api.StillPaid), days(19, 99)},
		{"the one made last counts, not the one with the last About", keepsAll(owed(1, 8, 5), owed(2, 3, 5, made(12))).still(4, api.StillPaid), days(17, 99)},
		{"another account is heard", keepsAll(owed(1, 8, 5), owed(2, 8, 5, made(14), on(6))).still(4, api.StillPaid), days(15, 99)},
		{"what is withdrawn is not heard", keepsAll(owed(1, 8, 5), owed(2, 8, 5, made(12)), withdraw(3, 2, made(12))).still(4, api.StillPaid), days(15, 99)},
		{"a correction is not heard", keepsAll(owed(1, 8, 5), correct(2, 1, 8, 6, made(14))).still(4, api.StillPaid), days(15, 99)},
		{"silent until it is heard", keepsAll(owed(1, 8, 5), owed(2, 8, 5, made(20))).still(4, api.StillPaid), append(days(15, 19), days(25, 99)...)},
		{"what is about a later day is not heard before", keepsAll(owed(1, 8, 5), owed(2, 18, 5, made(14))).still(4, api.StillPaid), append(days(15, 17), days(19, 99)...)},
		{"what has no law is not heard", landOne(short, owed(1, 8, 5), fact(api.RepLate, 2, 8, 5, made(14))).still(4, api.StillPaid), days(15, 58)},
		{"what is forgotten is not heard", landOne(short, owed(1, 8, 5), fact(api.RepPaid, 2, 8, 5, made(14))).still(7, api.StillPaid), days(18, 58)},
		{"until nothing is shown", landOne(short, owed(1, 8, 5)).still(4, api.StillPaid), days(15, 58)},
		{"never", keepsAll(owed(1, 8, 5)), nil},
		{"not within the most days", keepsAll(owed(1, 8, 5)).still(api.MaxDay, api.StillPaid), nil},
		{"nothing was ever told", keepsAll().still(1, api.StillPaid), nil},
		{"closed", keepsAll(owed(1, 8, 5), closed(2, 9)).still(4, api.StillPaid), nil},
		{"closed, on days that differ", keepsAll(owed(1, 8, 5), closed(2, 9), closed(3, 8)).still(4, api.StillPaid), nil},
		{"the closing is forgotten", landOne(short, owed(1, 8, 5), closed(2, 9)).still(4, api.StillPaid), days(21, 58)},
		{"a closing is to come", keepsAll(owed(1, 8, 5), closed(2, 18)).still(4, api.StillPaid), days(15, 17)},
		{"the account has no home", homeless, nil},
		{"its land tells nothing of silence", abroad, nil},
	} {
		if got := silentDays(t, x.w); !slices.Equal(got, x.want) {
			t.Error(x.name, got)
		}
	}
}

// P4.3 and P4.10: each land tells on its own what silence means.
func TestSilenceByLand(t *testing.T) {
	w := keepsAll(owed(1, 8, 5, on(0)), owed(2, 8, 5, on(5)), owed(3, 8, 5, on(6)), owed(4, 8, 5, on(7)))
	w.homes = []api.Home{{Account: 0, Land: 99}, {Account: 5, Land: 0}, {Account: 6, Land: 1}, {Account: 7, Land: 2}}
	w.code = api.Code{Stills: []api.Still{{Land: 0, Days: 6, Means: api.StillClosed}, {Land: 2, Days: 5, Means: api.StillNothing}, {Land: 99, Days: 4, Means: api.StillPaid}}}
	for _, land := range []int{0, 1, 2, 99} {
		w.code.Laws = append(w.code.Laws, api.Law{Land: land, Kind: api.RepOwed, Base: api.BaseMade, Keep: 90})
	}
	heard := func(id int) api.View { return shows(owes(yes(5, 8, id)), 101, id) }
	paid, shut := silent(heard(1)), silent(heard(2))
	paid.State.Owed = quiet(14)
	shut.State.Closed, shut.State.Is = quiet(16), api.AccountClosed
	for _, x := range []struct {
		account int
		day     int
		want    api.View
	}{
		{0, 14, heard(1)}, {0, 15, paid}, {0, 17, paid}, {5, 15, heard(2)}, {5, 16, heard(2)}, {5, 17, shut}, {6, 17, heard(3)}, {6, 90, heard(3)}, {7, 15, heard(4)}, {7, 16, silent(heard(4))},
	} {
		if v, e := w.show(x.account, x.day); e != api.OK || !same(v, x.want) {
			t.Error(x.account, x.day, v, e)
		}
	}
}

// P4.3: what silence changes in a state, by what it means.
func TestWhatSilenceMeans(t *testing.T) {
	all := []api.Report{fact(api.RepOpened, 1, 2, 0), fact(api.RepLimit, 2, 3, 30), owed(3, 4, 40), fact(api.RepPaid, 4, 5, 50), fact(api.RepLate, 5, 6, 60), fact(api.RepDefault, 6, 7, 70)}
	state := api.State{Opened: yes(0, 2, 1), Limit: yes(30, 3, 2), Owed: yes(40, 4, 3), Paid: api.Span{Lo: 50, Hi: 50}, Late: yes(60, 6, 5), Default: yes(70, 7, 6), Is: api.AccountDefault}
	ids := []int{1, 2, 3, 4, 5, 6}
	paid, shut := state, state
	paid.Owed = quiet(14)
	shut.Closed, shut.Is = quiet(14), api.AccountClosed
	open := []api.Report{owed(1, 8, 5), owed(2, 8, 6)}
	clash := api.Told{Known: api.KnownOpen, Since: 8, By: []int{1, 2}}
	late := []api.Report{fact(api.RepLate, 1, 8, 5)}
	long := landOne([]api.Law{law(api.RepOwed, api.BaseMade, api.MaxDay)}, owed(1, 0, 5, made(0)))
	checkViews(t, []viewed{
		{"on the last day", long.still(api.MaxDay-1, api.StillPaid), api.MaxDay, silent(shows(owes(quiet(api.MaxDay-1)), api.MaxDay+1, 1))},
		{"for the most days", long.still(api.MaxDay, api.StillPaid), api.MaxDay, shows(owes(yes(5, 0, 1)), api.MaxDay+1, 1)},
		{"nothing", keepsAll(all...).still(4, api.StillNothing), 20, silent(shows(state, 2003, ids...))},
		{"closed", keepsAll(all...).still(4, api.StillClosed), 20, silent(shows(shut, 2003, ids...))},
		{"paid", keepsAll(all...).still(4, api.StillPaid), 20, silent(shows(paid, 2003, ids...))},
		{"not yet nothing", keepsAll(all...).still(4, api.StillNothing), 14, shows(state, 2003, ids...)},
		{"not yet closed", keepsAll(all...).still(4, api.StillClosed), 14, shows(state, 2003, ids...)},
		{"not yet paid", keepsAll(all...).still(4, api.StillPaid), 14, shows(state, 2003, ids...)},
		{"what was open is paid", keepsAll(open...).still(4, api.StillPaid), 15, silent(shows(owes(quiet(14)), 2009, 1, 2))},
		{"what was open is closed", keepsAll(open...).still(4, api.StillClosed), 15, silent(shows(api.State{Owed: clash, Closed: quiet(14), Is: api.AccountClosed}, 2009, 1, 2))},
		{"what was not known is paid", keepsAll(late...).still(4, api.StillPaid), 15, silent(shows(api.State{Owed: quiet(14), Late: yes(5, 8, 1), Is: api.AccountLate}, 2009, 1))},
		{"the day of silence stays", keepsAll(late...).still(4, api.StillClosed), 900, silent(shows(api.State{Closed: quiet(14), Late: yes(5, 8, 1), Is: api.AccountClosed}, 2009, 1))},
	})
}
