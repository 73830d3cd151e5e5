package account_test

import (
	"testing"

	"goodname/account"
	"goodname/api"
)

// told is a story, and what it tells of the account 5 on a day.
type told struct {
	name string
	l    []api.Report
	day  int
	want api.State
}

func checkStates(t *testing.T, tolds []told) {
	t.Helper()
	for _, x := range tolds {
		inAnyOrder(x.l, func(l []api.Report) {
			if s, e := account.State(l, 5, x.day, 20); e != api.OK || !same(s, x.want) {
				t.Error(x.name, s, e)
			}
		})
	}
}

// P3.3: Limit, Owed and Late are told by the facts with the greatest About.
func TestStateOfLatestFacts(t *testing.T) {
	for _, x := range []struct {
		kind uint8
		put  func(told api.Told) api.State
		is   [3]uint8 // of none, of nothing, and of 7 or an open thing
	}{
		{api.RepLimit, func(x api.Told) api.State { return api.State{Limit: x} }, [3]uint8{api.AccountNone, api.AccountOpen, api.AccountOpen}},
		{api.RepOwed, func(x api.Told) api.State { return api.State{Owed: x} }, [3]uint8{api.AccountNone, api.AccountOpen, api.AccountOpen}},
		{api.RepLate, func(x api.Told) api.State { return api.State{Late: x} }, [3]uint8{api.AccountNone, api.AccountOpen, api.AccountLate}},
	} {
		f := func(id, about, cents int, l ...change) api.Report { return fact(x.kind, id, about, cents, l...) }
		for _, y := range []struct {
			name string
			l    []api.Report
			day  int
			want api.Told
			is   int
		}{
			{"none", nil, 30, api.Told{}, 0},
			{"the day before", []api.Report{f(1, 8, 7)}, 7, api.Told{}, 0},
			{"on the day", []api.Report{f(1, 8, 7)}, 8, yes(7, 8, 1), 2},
			{"long after", []api.Report{f(1, 8, 7)}, api.MaxDay, yes(7, 8, 1), 2},
			{"on the day 0", []api.Report{f(0, 0, 7)}, 0, yes(7, 0, 0), 2},
			{"on the last day", []api.Report{f(1, api.MaxDay, 7)}, api.MaxDay, yes(7, api.MaxDay, 1), 2},
			{"nothing", []api.Report{f(1, 8, 0)}, 8, yes(0, 8, 1), 1},
			{"a later one", []api.Report{f(1, 8, 9), f(2, 9, 7)}, 30, yes(7, 9, 2), 2},
			{"it has the lesser Id, and was made before", []api.Report{f(2, 8, 9, made(15)), f(1, 9, 7)}, 30, yes(7, 9, 1), 2},
			{"a later one tells nothing", []api.Report{f(1, 8, 9), f(2, 9, 0)}, 30, yes(0, 9, 2), 1},
			{"one is later than the day", []api.Report{f(1, 8, 7), f(2, 9, 9)}, 8, yes(7, 8, 1), 2},
			{"two agree", []api.Report{f(4, 8, 7), f(3, 8, 7, by(71))}, 8, yes(7, 8, 3, 4), 2},
			{"two of one source agree", []api.Report{f(4, 8, 7), f(3, 8, 7)}, 8, yes(7, 8, 3, 4), 2},
			{"two differ", []api.Report{f(4, 8, 7), f(3, 8, 9, by(71))}, 8, open(8, 3, 4), 2},
			{"two of one source differ", []api.Report{f(4, 8, 7), f(3, 8, 9, made(15))}, 8, open(8, 3, 4), 2},
			{"one of two tells nothing", []api.Report{f(4, 8, 7), f(3, 8, 0)}, 8, open(8, 3, 4), 2},
			{"the last of three differs", []api.Report{f(4, 8, 7), f(3, 8, 7), f(5, 8, 6)}, 8, open(8, 3, 4, 5), 2},
			{"the one in between differs", []api.Report{f(5, 8, 7), f(4, 8, 9), f(3, 8, 7)}, 8, open(8, 3, 4, 5), 2},
			{"they differed before", []api.Report{f(1, 8, 9), f(2, 8, 8), f(3, 9, 7), f(4, 9, 7, by(71))}, 30, yes(7, 9, 3, 4), 2},
			{"they agreed before", []api.Report{f(1, 8, 9), f(2, 8, 9), f(3, 9, 6), f(4, 9, 7)}, 30, open(9, 3, 4), 2},
			{"corrected", []api.Report{f(1, 8, 9), correct(2, 1, 8, 7)}, 30, yes(7, 8, 1), 2},
			{"corrected to a later day", []api.Report{f(1, 8, 9), correct(2, 1, 12, 7), f(3, 11, 6)}, 30, yes(7, 12, 1), 2},
			{"later than the day", []api.Report{f(1, 8, 9), correct(2, 1, 12, 7)}, 11, api.Told{}, 0},
			{"corrected to an earlier day", []api.Report{f(1, 12, 9), correct(2, 1, 8, 7)}, 8, yes(7, 8, 1), 2},
			{"corrected to what another one tells", []api.Report{f(2, 12, 9), correct(3, 2, 8, 7), f(1, 8, 7, by(71))}, 30, yes(7, 8, 1, 2), 2},
			{"corrected to differ", []api.Report{f(2, 8, 7), correct(3, 2, 8, 9), f(1, 8, 7, by(71))}, 30, open(8, 1, 2), 2},
			{"corrected by another source", []api.Report{f(1, 8, 7), correct(2, 1, 9, 9, by(71))}, 30, yes(7, 8, 1), 2},
			{"withdrawn", []api.Report{f(1, 8, 9), withdraw(2, 1)}, 30, api.Told{}, 0},
			{"the latest one is withdrawn", []api.Report{f(1, 8, 7), f(3, 9, 9), withdraw(2, 3)}, 30, yes(7, 8, 1), 2},
			{"one of two is withdrawn", []api.Report{f(1, 8, 7), f(3, 8, 9), withdraw(2, 3)}, 30, yes(7, 8, 1), 2},
			{"withdrawn by another source", []api.Report{f(1, 8, 7), withdraw(2, 1, by(71))}, 30, yes(7, 8, 1), 2},
			{"not known yet", []api.Report{f(1, 8, 7, made(20)), f(2, 9, 9, made(21))}, 30, yes(7, 8, 1), 2},
			{"of another account", []api.Report{f(1, 8, 7), f(2, 9, 9, on(6)), f(3, 8, 9, on(6))}, 30, yes(7, 8, 1), 2},
			{"of other accounts alone", []api.Report{f(2, 9, 9, on(6)), f(3, 8, 9, on(0))}, 30, api.Told{}, 0},
			{"the most", []api.Report{f(api.MaxId, 8, most(x.kind))}, 30, yes(most(x.kind), 8, api.MaxId), 2},
		} {
			want := x.put(y.want)
			want.Is = x.is[y.is]
			checkStates(t, []told{{y.name, y.l, y.day, want}})
		}
	}
}

// P3.3: Opened, Default and Closed are told by all facts of their kind.
func TestStateOfAllFacts(t *testing.T) {
	for _, x := range []struct {
		kind uint8
		put  func(told api.Told) api.State
		is   uint8
		n    int // the Cents of the facts
	}{
		{api.RepOpened, func(x api.Told) api.State { return api.State{Opened: x} }, api.AccountOpen, 0},
		{api.RepDefault, func(x api.Told) api.State { return api.State{Default: x} }, api.AccountDefault, 7},
		{api.RepDefault, func(x api.Told) api.State { return api.State{Default: x} }, api.AccountDefault, 0},
		{api.RepClosed, func(x api.Told) api.State { return api.State{Closed: x} }, api.AccountClosed, 0},
	} {
		f := func(id, about int, l ...change) api.Report { return fact(x.kind, id, about, x.n, l...) }
		for _, y := range []struct {
			name string
			l    []api.Report
			day  int
			want api.Told
		}{
			{"none", nil, 30, api.Told{}},
			{"the day before", []api.Report{f(1, 8)}, 7, api.Told{}},
			{"on the day", []api.Report{f(1, 8)}, 8, yes(x.n, 8, 1)},
			{"long after", []api.Report{f(1, 8)}, api.MaxDay, yes(x.n, 8, 1)},
			{"on the day 0", []api.Report{f(0, 0)}, 0, yes(x.n, 0, 0)},
			{"two agree", []api.Report{f(4, 8), f(3, 8, by(71))}, 30, yes(x.n, 8, 3, 4)},
			{"two differ", []api.Report{f(3, 8), f(4, 9, by(71))}, 30, open(8, 3, 4)},
			{"the later one has the lesser Id", []api.Report{f(3, 9), f(4, 8)}, 30, open(8, 3, 4)},
			{"one of two is later than the day", []api.Report{f(3, 9), f(4, 8)}, 8, yes(x.n, 8, 4)},
			{"three", []api.Report{f(5, 8), f(4, 8), f(3, 12)}, 30, open(8, 3, 4, 5)},
			{"the day of one comes later", []api.Report{f(5, 8), f(4, 8), f(3, 12)}, 11, yes(x.n, 8, 4, 5)},
			{"corrected", []api.Report{f(1, 8), correct(2, 1, 9, x.n)}, 30, yes(x.n, 9, 1)},
			{"corrected to what another one tells", []api.Report{f(2, 12), correct(3, 2, 8, x.n), f(1, 8, by(71))}, 30, yes(x.n, 8, 1, 2)},
			{"corrected to differ", []api.Report{f(1, 8), correct(3, 2, 7, x.n), f(2, 8)}, 30, open(7, 1, 2)},
			{"one of two is withdrawn", []api.Report{f(1, 8), f(3, 9), withdraw(2, 1)}, 30, yes(x.n, 9, 3)},
			{"withdrawn", []api.Report{f(1, 8), withdraw(2, 1)}, 30, api.Told{}},
			{"not known yet", []api.Report{f(1, 8, made(20)), f(2, 9, made(21))}, 30, yes(x.n, 8, 1)},
			{"of another account", []api.Report{f(1, 8), f(2, 9, on(6))}, 30, yes(x.n, 8, 1)},
		} {
			want := x.put(y.want)
			if y.want.Known != api.KnownNo {
				want.Is = x.is
			}
			checkStates(t, []told{{y.name, y.l, y.day, want}})
		}
	}
}

// P3.3: of a default Cents may differ, too.
func TestStateOfDefaults(t *testing.T) {
	is := func(x api.Told) api.State { return api.State{Default: x, Is: api.AccountDefault} }
	checkStates(t, []told{
		{"of one day", []api.Report{defaulted(3, 8, 7), defaulted(2, 8, 9)}, 30, is(open(8, 2, 3))},
		{"and of another one", []api.Report{defaulted(3, 8, 7), defaulted(2, 9, 9)}, 30, is(open(8, 2, 3))},
		{"before the other one", []api.Report{defaulted(3, 8, 7), defaulted(2, 9, 9)}, 8, is(yes(7, 8, 3))},
		{"one is corrected", []api.Report{defaulted(3, 8, 7), defaulted(2, 8, 9), correct(4, 2, 8, 7)}, 30, is(yes(7, 8, 2, 3))},
		{"the most", []api.Report{defaulted(3, 8, api.MaxMoney)}, 30, is(yes(api.MaxMoney, 8, 3))},
	})
}

// P3.3 and P3.8: what was paid.
func TestStateOfPayments(t *testing.T) {
	is := func(lo, hi int) api.State {
		return api.State{Paid: api.Span{Lo: lo, Hi: hi}, Is: api.AccountOpen}
	}
	two := []api.Report{paid(1, 8, 100), paid(2, 8, 50), paid(3, 8, 120, by(71)), paid(4, 9, 30, by(71))}
	with := func(more ...api.Report) []api.Report { return append(two[:4:4], more...) }
	var many []api.Report
	for id := range api.MaxReports {
		many = append(many, paid(id, 8+id%2, api.MaxMoney, by(70+id%3)))
	}
	checkStates(t, []told{
		{"none", nil, 30, api.State{}},
		{"the day before", []api.Report{paid(1, 8, 100)}, 7, api.State{}},
		{"on the day", []api.Report{paid(1, 8, 100)}, 8, is(100, 100)},
		{"nothing", []api.Report{paid(1, 8, 0)}, 8, is(0, 0)},
		{"nothing, on the day 0", []api.Report{paid(0, 0, 0, by(0))}, 0, is(0, 0)},
		{"nothing, before", []api.Report{paid(1, 8, 0)}, 7, api.State{}},
		{"two by one source", []api.Report{paid(1, 8, 100), paid(2, 8, 100)}, 30, is(200, 200)},
		{"one told by two", []api.Report{paid(1, 8, 100), paid(2, 8, 100, by(71))}, 30, is(100, 100)},
		{"told by two in other parts", []api.Report{paid(1, 8, 100), paid(2, 8, 60, by(71)), paid(3, 8, 40, by(71))}, 30, is(100, 100)},
		{"two that differ", []api.Report{paid(1, 8, 100), paid(2, 8, 90, by(71))}, 30, is(90, 100)},
		{"one tells of nothing", []api.Report{paid(1, 8, 100), paid(2, 8, 0, by(71))}, 30, is(0, 100)},
		{"three that differ", []api.Report{paid(1, 8, 100), paid(2, 8, 90, by(71)), paid(3, 8, 95, by(72))}, 30, is(90, 100)},
		{"on two days", []api.Report{paid(1, 8, 100), paid(2, 9, 90, by(71))}, 30, is(190, 190)},
		{"on two days, by two", two, 30, is(150, 180)},
		{"on the first of them", two, 8, is(120, 150)},
		{"another one is greatest on another day", with(paid(5, 9, 45)), 30, is(150, 195)},
		{"one is withdrawn", with(withdraw(5, 2)), 30, is(130, 150)},
		{"one is withdrawn, and no other one is of its source", with(withdraw(5, 4, by(71))), 30, is(120, 150)},
		{"one is corrected", with(correct(5, 2, 8, 20)), 30, is(150, 150)},
		{"to another day", with(correct(5, 2, 9, 20)), 30, is(120, 150)},
		{"later than the day", with(correct(5, 2, 31, 20)), 30, is(130, 150)},
		{"of another account", with(paid(5, 8, 7, on(6)), paid(6, 9, 1, on(6))), 30, is(150, 180)},
		{"not known yet", with(paid(5, 8, 7, made(21))), 30, is(150, 180)},
		{"the most", []api.Report{paid(1, 8, api.MaxMoney), paid(2, 8, api.MaxMoney)}, 30, is(2*api.MaxMoney, 2*api.MaxMoney)},
		{"the most of the most", many, 30, is(20*api.MaxMoney, 20*api.MaxMoney)},
	})
}

// P3.3: what an account is.
func TestStateIs(t *testing.T) {
	shut := api.State{Opened: yes(0, 2, 1), Limit: yes(9, 3, 2), Owed: yes(8, 4, 3), Paid: api.Span{Lo: 7, Hi: 7}, Late: yes(5, 6, 5), Default: yes(4, 7, 6), Closed: yes(0, 8, 7), Is: api.AccountClosed}
	all := []api.Report{opened(1, 2), limit(2, 3, 9), owed(3, 4, 8), paid(4, 5, 7), late(5, 6, 5), defaulted(6, 7, 4), closed(7, 8)}
	back := func(is uint8, changes ...func(s *api.State)) api.State {
		s := shut
		s.Is = is
		for _, f := range changes {
			f(&s)
		}
		return s
	}
	notClosed := func(s *api.State) { s.Closed = api.Told{} }
	notDefault := func(s *api.State) { s.Default = api.Told{} }
	notLate := func(s *api.State) { s.Late = api.Told{} }
	with := func(more ...api.Report) []api.Report { return append(all[:7:7], more...) }
	checkStates(t, []told{
		{"closed", all, 8, shut},
		{"in default", all, 7, back(api.AccountDefault, notClosed)},
		{"late", all, 6, back(api.AccountLate, notClosed, notDefault)},
		{"open", all, 5, back(api.AccountOpen, notClosed, notDefault, notLate)},
		{"opened", all, 2, api.State{Opened: yes(0, 2, 1), Is: api.AccountOpen}},
		{"none", all, 1, api.State{}},
		{"perhaps closed", with(closed(8, 9)), 30, back(api.AccountClosed, func(s *api.State) { s.Closed = open(8, 7, 8) })},
		{"perhaps in default", with(defaulted(8, 7, 3)), 7, back(api.AccountDefault, notClosed, func(s *api.State) { s.Default = open(7, 6, 8) })},
		{"perhaps late", with(late(8, 6, 0)), 6, back(api.AccountLate, notClosed, notDefault, func(s *api.State) { s.Late = open(6, 5, 8) })},
		{"not late any more", with(late(8, 7, 0), withdraw(9, 6)), 7, back(api.AccountOpen, notClosed, notDefault, func(s *api.State) { s.Late = yes(0, 7, 8) })},
		{"closed by mistake", with(withdraw(8, 7)), 30, back(api.AccountDefault, notClosed)},
		{"late by a day", []api.Report{late(1, 5, 1)}, 5, api.State{Late: yes(1, 5, 1), Is: api.AccountLate}},
		{"corrections and withdrawals tell nothing", []api.Report{correct(1, 2, 3, 4), withdraw(3, 2), withdraw(2, 1)}, 30, api.State{}},
	})
}

// P3.3: what was told on a day, by what was known on another one.
func TestStateByKnownDays(t *testing.T) {
	l := []api.Report{owed(1, 10, 500, made(30)), owed(2, 20, 600, made(20)), correct(3, 2, 20, 650, made(40)), withdraw(4, 2, made(50))}
	none := api.State{}
	is := func(told api.Told) api.State { return api.State{Owed: told, Is: api.AccountOpen} }
	for _, x := range []struct {
		day, known int
		want       api.State
	}{
		{0, 0, none}, {30, 19, none}, {30, 20, is(yes(600, 20, 2))}, {19, 20, none}, {19, 29, none},
		{19, 30, is(yes(500, 10, 1))}, {20, 30, is(yes(600, 20, 2))}, {20, 39, is(yes(600, 20, 2))}, {20, 40, is(yes(650, 20, 2))},
		{20, 49, is(yes(650, 20, 2))}, {20, 50, is(yes(500, 10, 1))}, {9, 50, none}, {10, 50, is(yes(500, 10, 1))},
		{api.MaxDay, 20, is(yes(600, 20, 2))}, {10, api.MaxDay, is(yes(500, 10, 1))}, {api.MaxDay, api.MaxDay, is(yes(500, 10, 1))},
	} {
		if s, e := account.State(l, 5, x.day, x.known); e != api.OK || !same(s, x.want) {
			t.Error(x.day, x.known, s, e)
		}
	}
}

// P3.3 and P3.4: accounts at the ends of their range.
func TestAccountsAtTheirLimits(t *testing.T) {
	l := []api.Report{owed(1, 2, 3, on(0)), owed(2, 2, 4, on(api.MaxId)), owed(3, 2, 5, on(api.MaxId))}
	for _, x := range []struct {
		account int
		want    api.Told
	}{{0, yes(3, 2, 1)}, {1, api.Told{}}, {api.MaxId, open(2, 2, 3)}} {
		s, e := account.State(l, x.account, 30, 30)
		c, f := account.Clashes(l, x.account, 30)
		if e != api.OK || f != api.OK || !same(s.Owed, x.want) || (len(c) > 0) != (x.account == api.MaxId) {
			t.Error(x.account, s, c, e, f)
		}
	}
}
