package account_test

import (
	"testing"

	"goodname/account"
	"goodname/api"
)

func clash(kind uint8, about int, by ...int) api.Clash {
	return api.Clash{Kind: kind, About: about, By: by}
}

// clashing is a story, and its clashes of the account 5.
type clashing struct {
	name string
	l    []api.Report
	want []api.Clash
}

func checkClashes(t *testing.T, clashings []clashing) {
	t.Helper()
	for _, x := range clashings {
		inAnyOrder(x.l, func(l []api.Report) {
			if c, e := account.Clashes(l, 5, 20); e != api.OK || !same(c, x.want) {
				t.Error(x.name, c, e)
			}
		})
	}
}

// P3.4: of limits, of what is owed, and of how late it is.
func TestClashesByDay(t *testing.T) {
	for _, kind := range []uint8{api.RepLimit, api.RepOwed, api.RepLate} {
		f := func(id, about, cents int, l ...change) api.Report { return fact(kind, id, about, cents, l...) }
		is := func(about int, by ...int) []api.Clash { return []api.Clash{clash(kind, about, by...)} }
		checkClashes(t, []clashing{
			{"none", nil, nil},
			{"one", []api.Report{f(1, 8, 7)}, nil},
			{"two agree", []api.Report{f(1, 8, 7), f(2, 8, 7, by(71))}, nil},
			{"of two days", []api.Report{f(1, 8, 7), f(2, 9, 6)}, nil},
			{"two differ", []api.Report{f(4, 8, 7), f(3, 8, 6, by(71))}, is(8, 3, 4)},
			{"two of one source differ", []api.Report{f(4, 8, 7), f(3, 8, 6)}, is(8, 3, 4)},
			{"of the day 0", []api.Report{f(4, 0, 7), f(0, 0, 0)}, is(0, 0, 4)},
			{"of the last day", []api.Report{f(4, api.MaxDay, 7), f(api.MaxId, api.MaxDay, 6)}, is(api.MaxDay, 4, api.MaxId)},
			{"those that agree are there, too", []api.Report{f(5, 8, 7), f(3, 8, 6), f(4, 8, 7), f(1, 9, 7), f(9, 7, 7)}, is(8, 3, 4, 5)},
			{"of two days, before others", []api.Report{f(1, 12, 7), f(2, 12, 6), f(3, 8, 7), f(4, 8, 6), f(5, 15, 7)}, []api.Clash{clash(kind, 8, 3, 4), clash(kind, 12, 1, 2)}},
			{"of another account", []api.Report{f(1, 8, 7), f(2, 8, 6, on(6)), f(3, 8, 5, on(6))}, nil},
			{"not known yet", []api.Report{f(1, 8, 7, made(20)), f(2, 8, 6, made(21))}, nil},
			{"one is withdrawn", []api.Report{f(1, 8, 7), f(2, 8, 6), withdraw(3, 2)}, nil},
			{"one of three is withdrawn", []api.Report{f(1, 8, 7), f(2, 8, 6), f(4, 8, 5), withdraw(3, 2)}, is(8, 1, 4)},
			{"withdrawn by another source", []api.Report{f(1, 8, 7), f(2, 8, 6), withdraw(3, 2, by(71))}, is(8, 1, 2)},
			{"one is corrected to agree", []api.Report{f(1, 8, 7), f(2, 8, 6), correct(3, 2, 8, 7)}, nil},
			{"to another day", []api.Report{f(1, 8, 7), f(2, 8, 6), correct(3, 2, 9, 6), f(4, 9, 5)}, is(9, 2, 4)},
			{"to differ", []api.Report{f(1, 8, 7), f(2, 8, 7), correct(3, 2, 8, 6)}, is(8, 1, 2)},
		})
	}
}

// P3.4: of the kinds of which all facts tell one thing.
func TestClashesOfAll(t *testing.T) {
	for _, kind := range []uint8{api.RepOpened, api.RepDefault, api.RepClosed} {
		f := func(id, about int, l ...change) api.Report { return fact(kind, id, about, 0, l...) }
		is := func(about int, by ...int) []api.Clash { return []api.Clash{clash(kind, about, by...)} }
		checkClashes(t, []clashing{
			{"none", nil, nil},
			{"one", []api.Report{f(1, 8)}, nil},
			{"two agree", []api.Report{f(1, 8), f(2, 8, by(71))}, nil},
			{"two differ", []api.Report{f(4, 8), f(3, 9, by(71))}, is(8, 3, 4)},
			{"two of one source differ", []api.Report{f(3, 8), f(4, 9)}, is(8, 3, 4)},
			{"far apart", []api.Report{f(4, 0), f(3, api.MaxDay)}, is(0, 3, 4)},
			{"three, of which two agree", []api.Report{f(2, 9), f(1, 8), f(3, 8)}, is(8, 1, 2, 3)},
			{"of another account", []api.Report{f(1, 8), f(2, 9, on(6)), f(3, 7, on(6))}, nil},
			{"not known yet", []api.Report{f(1, 8, made(20)), f(2, 9, made(21))}, nil},
			{"one is withdrawn", []api.Report{f(1, 8), f(2, 9), withdraw(3, 2)}, nil},
			{"one is corrected to agree", []api.Report{f(1, 8), f(2, 9), correct(3, 2, 8, 0)}, nil},
			{"one is corrected to differ", []api.Report{f(1, 8), f(2, 8), correct(3, 2, 7, 0)}, is(7, 1, 2)},
		})
	}
	checkClashes(t, []clashing{
		{"defaults with other Cents", []api.Report{defaulted(1, 8, 7), defaulted(2, 8, 6)}, []api.Clash{clash(api.RepDefault, 8, 1, 2)}},
		{"and of other days", []api.Report{defaulted(1, 9, 7), defaulted(2, 8, 6), defaulted(3, 9, 7)}, []api.Clash{clash(api.RepDefault, 8, 1, 2, 3)}},
		{"defaults that agree", []api.Report{defaulted(1, 8, 7), defaulted(2, 8, 7)}, nil},
	})
}

// P3.4: of payments, by what the sources tell of a day in sum.
func TestClashesOfPayments(t *testing.T) {
	is := func(about int, by ...int) []api.Clash { return []api.Clash{clash(api.RepPaid, about, by...)} }
	checkClashes(t, []clashing{
		{"none", nil, nil},
		{"one", []api.Report{paid(1, 8, 100)}, nil},
		{"two of one source", []api.Report{paid(1, 8, 100), paid(2, 8, 50)}, nil},
		{"one told by two", []api.Report{paid(1, 8, 100), paid(2, 8, 100, by(71))}, nil},
		{"in other parts", []api.Report{paid(1, 8, 100), paid(2, 8, 60, by(71)), paid(3, 8, 40, by(71))}, nil},
		{"two differ", []api.Report{paid(4, 8, 100), paid(3, 8, 90, by(71))}, is(8, 3, 4)},
		{"one tells of nothing", []api.Report{paid(4, 8, 100), paid(3, 8, 0, by(71))}, is(8, 3, 4)},
		{"both tell of nothing", []api.Report{paid(4, 8, 0), paid(3, 8, 0, by(71))}, nil},
		{"the same parts, not as often", []api.Report{paid(1, 8, 50), paid(2, 8, 50), paid(3, 8, 50, by(71))}, is(8, 1, 2, 3)},
		{"one of three differs", []api.Report{paid(9, 8, 50), paid(2, 8, 50, by(71)), paid(3, 8, 51, by(72))}, is(8, 2, 3, 9)},
		{"of two days", []api.Report{paid(1, 8, 100), paid(2, 9, 50, by(71))}, nil},
		{"the sums over both days are the same", []api.Report{paid(1, 12, 60), paid(2, 8, 40), paid(3, 12, 40, by(71)), paid(4, 8, 60, by(71)), paid(5, 10, 1)}, []api.Clash{clash(api.RepPaid, 8, 2, 4), clash(api.RepPaid, 12, 1, 3)}},
		{"of another account", []api.Report{paid(1, 8, 100), paid(2, 8, 90, by(71), on(6)), paid(3, 8, 80, on(6))}, nil},
		{"not known yet", []api.Report{paid(1, 8, 100, made(20)), paid(2, 8, 90, by(71), made(21))}, nil},
		{"one is withdrawn", []api.Report{paid(1, 8, 100), paid(2, 8, 90, by(71)), withdraw(3, 2, by(71))}, nil},
		{"one is corrected", []api.Report{paid(1, 8, 100), paid(2, 8, 90, by(71)), correct(3, 2, 8, 100, by(71))}, nil},
		{"to differ", []api.Report{paid(1, 8, 100), paid(2, 8, 100, by(71)), correct(3, 1, 8, 99)}, is(8, 1, 2)},
	})
}

// P3.4: the clashes of all kinds, by Kind, then by About.
func TestClashesInOrder(t *testing.T) {
	checkClashes(t, []clashing{{"all", []api.Report{
		closed(1, 3), closed(2, 4), defaulted(3, 9, 1), defaulted(4, 9, 2), late(5, 1, 1), late(6, 1, 2), paid(7, 6, 1), paid(8, 6, 2, by(71)),
		owed(9, 7, 1), owed(10, 7, 2), owed(11, 2, 1), owed(12, 2, 2), limit(13, 9, 1), limit(14, 9, 2), opened(15, 99), opened(16, 98),
	}, []api.Clash{
		clash(api.RepOpened, 98, 15, 16), clash(api.RepLimit, 9, 13, 14), clash(api.RepOwed, 2, 11, 12), clash(api.RepOwed, 7, 9, 10),
		clash(api.RepPaid, 6, 7, 8), clash(api.RepLate, 1, 5, 6), clash(api.RepDefault, 9, 3, 4), clash(api.RepClosed, 3, 1, 2),
	}}})
}

// P3.4: what is known on a day, whatever day it is about.
func TestClashesByKnownDays(t *testing.T) {
	l := []api.Report{owed(1, 90, 500, made(20)), owed(2, 90, 600, made(30), by(71)), correct(3, 2, 90, 500, made(40), by(71)), withdraw(4, 3, made(50), by(71)), withdraw(5, 1, made(60))}
	for _, x := range []struct {
		known, many int
	}{{0, 0}, {20, 0}, {29, 0}, {30, 1}, {39, 1}, {40, 0}, {49, 0}, {50, 1}, {59, 1}, {60, 0}, {api.MaxDay, 0}} {
		if c, e := account.Clashes(l, 5, x.known); e != api.OK || len(c) != x.many {
			t.Error(x.known, c, e)
		}
	}
}
