package term_test

import (
	"testing"

	"goodname/api"
)

// asked is a question for the last day of a fact on a day.
type asked struct {
	name    string
	w       world
	id, day int
	want    lasting
}

func checkLasts(t *testing.T, l []asked) {
	t.Helper()
	for _, x := range l {
		if n, e := x.w.last(x.id, x.day); x.want != (lasting{n, e}) {
			t.Error(x.name, n, e)
		}
	}
}

func until(day int) lasting { return lasting{day, api.OK} }

var none = lasting{0, api.ErrNone}

// P4.2: a fact is kept from its About, or its Made, on.
func TestLastFromAboutAndMade(t *testing.T) {
	about := []api.Law{law(api.RepOwed, api.BaseAbout, 20)}
	from := []api.Law{law(api.RepOwed, api.BaseMade, 20)}
	corrected := []api.Report{owed(1, 8, 500), correct(2, 1, 6, 501, made(15))}
	shut := []api.Report{owed(1, 8, 500), closed(2, 3)}
	checkLasts(t, []asked{
		{"from About", landOne(about, owed(1, 8, 500)), 1, 10, until(28)},
		{"from Made", landOne(from, owed(1, 8, 500)), 1, 10, until(30)},
		{"from About, long after", landOne(about, owed(1, 8, 500)), 1, api.MaxDay, until(28)},
		{"from Made, long after", landOne(from, owed(1, 8, 500)), 1, api.MaxDay, until(30)},
		{"About is to come", landOne(about, owed(1, 90, 500)), 1, 10, until(110)},
		{"About is to come, from Made", landOne(from, owed(1, 90, 500)), 1, 10, until(30)},
		{"a correction is not known", landOne(about, corrected...), 1, 14, until(28)},
		{"a correction is known", landOne(about, corrected...), 1, 15, until(26)},
		{"a correction is no new Made", landOne(from, corrected...), 1, 15, until(30)},
		{"a closing changes nothing, from About", landOne(about, shut...), 1, 15, until(28)},
		{"a closing changes nothing, from Made", landOne(from, shut...), 1, 15, until(30)},
		{"kept for no day, from About", landOne([]api.Law{law(api.RepOwed, api.BaseAbout, 0)}, owed(1, 8, 500)), 1, 10, until(8)},
		{"kept for no day, from Made", landOne([]api.Law{law(api.RepOwed, api.BaseMade, 0)}, owed(1, 8, 500)), 1, 10, until(10)},
		{"kept for the most days, from About", landOne([]api.Law{law(api.RepOwed, api.BaseAbout, api.MaxDay)}, owed(1, api.MaxDay, 500)), 1, 10, until(2 * api.MaxDay)},
		{"kept for the most days, from Made", landOne([]api.Law{law(api.RepOwed, api.BaseMade, api.MaxDay)}, owed(1, 8, 500, made(api.MaxDay))), 1, api.MaxDay, until(2 * api.MaxDay)},
		{"the day 0", landOne(about, owed(0, 0, 0, made(0))), 0, 0, until(20)},
	})
}

// P4.2: a fact is kept from the first closing of its account on.
func TestLastFromClosing(t *testing.T) {
	laws := []api.Law{law(api.RepOwed, api.BaseClosed, 20), law(api.RepClosed, api.BaseClosed, 3)}
	w := func(l ...api.Report) world { return landOne(laws, append(l, owed(1, 8, 500))...) }
	two := w(closed(2, 40, made(12)), closed(3, 35, made(14)))
	checkLasts(t, []asked{
		{"never closed", w(), 1, 10, until(api.NeverEnds)},
		{"never closed, long after", w(), 1, api.MaxDay, until(api.NeverEnds)},
		{"never closed, kept for no day", landOne([]api.Law{law(api.RepOwed, api.BaseClosed, 0)}, owed(1, 8, 500)), 1, 10, until(api.NeverEnds)},
		{"never closed, kept for the most days", landOne([]api.Law{law(api.RepOwed, api.BaseClosed, api.MaxDay)}, owed(1, 8, 500)), 1, 10, until(api.NeverEnds)},
		{"closed", w(closed(2, 12)), 1, 12, until(32)},
		{"closed before", w(closed(2, 3)), 1, 12, until(23)},
		{"closed on a day to come", w(closed(2, 40)), 1, 12, until(60)},
		{"a closing is not known", two, 1, 11, until(api.NeverEnds)},
		{"one of two closings is known", two, 1, 13, until(60)},
		{"both are known", two, 1, 14, until(55)},
		{"the first one has the greater Id", w(closed(2, 40), closed(3, 35)), 1, 12, until(55)},
		{"the first one has the lesser Id", w(closed(2, 35), closed(3, 40)), 1, 12, until(55)},
		{"another account is closed", w(closed(2, 12, on(6))), 1, 12, until(api.NeverEnds)},
		{"a closing is withdrawn", w(closed(2, 12), withdraw(3, 2, made(15))), 1, 15, until(api.NeverEnds)},
		{"a closing is not withdrawn yet", w(closed(2, 12), withdraw(3, 2, made(15))), 1, 14, until(32)},
		{"the first of two closings is withdrawn", w(closed(2, 12), closed(3, 13), withdraw(4, 2)), 1, 15, until(33)},
		{"a closing is corrected", w(closed(2, 12), correct(3, 2, 14, 0, made(15))), 1, 15, until(34)},
		{"a closing is corrected to the day 0", w(closed(2, 12), correct(3, 2, 0, 0)), 1, 15, until(20)},
		{"the closing itself", w(closed(2, 12)), 2, 12, until(15)},
		{"each closing is kept from the first one on", w(closed(2, 12), closed(3, 13)), 3, 12, until(15)},
		{"a closing has no law", landOne(laws[:1], owed(1, 8, 500), closed(2, 12)), 1, 12, until(32)},
		{"kept for no day", landOne([]api.Law{law(api.RepOwed, api.BaseClosed, 0)}, owed(1, 8, 500), closed(2, 12)), 1, 12, until(12)},
		{"kept for the most days", landOne([]api.Law{law(api.RepOwed, api.BaseClosed, api.MaxDay)}, owed(1, 8, 500), closed(2, api.MaxDay)), 1, 12, until(2 * api.MaxDay)},
	})
}

// P4.2: each kind, and each land, has its own law.
func TestLastByTheLaw(t *testing.T) {
	w := world{homes: []api.Home{{Account: 0, Land: 1}, {Account: 5, Land: 0}, {Account: 6, Land: 99}, {Account: 7, Land: 2}, {Account: api.MaxId, Land: 1}}}
	for _, land := range []int{0, 1, 99} {
		for kind := uint8(api.RepOpened); kind <= api.RepClosed; kind++ {
			w.code.Laws = append(w.code.Laws, api.Law{Land: land, Kind: kind, Base: api.BaseMade, Keep: 10*land + int(kind)})
		}
	}
	for kind := uint8(api.RepOpened); kind <= api.RepClosed; kind++ {
		for account, want := range map[int]lasting{0: until(20 + int(kind)), 5: until(10 + int(kind)), 6: until(1000 + int(kind)), 7: none, 8: none, 1: none, api.MaxId: until(20 + int(kind))} {
			x := w.with([]api.Report{fact(kind, 3, 8, 0, on(account))})
			checkLasts(t, []asked{{"", x, 3, 10, want}})
			fewer := x
			fewer.code.Laws = nil
			for _, l := range w.code.Laws {
				if l.Kind != kind {
					fewer.code.Laws = append(fewer.code.Laws, l)
				}
			}
			checkLasts(t, []asked{{"its kind has no law", fewer, 3, 10, none}})
		}
	}
}

// P4.2: ErrNone if there is no such fact on the day, or it has no law.
func TestLastOfNoFact(t *testing.T) {
	w := landOne([]api.Law{law(api.RepOwed, api.BaseMade, 20)},
		owed(1, 8, 500), owed(2, 8, 500), withdraw(3, 2, made(12)), correct(4, 1, 9, 400), fact(api.RepLimit, 6, 8, 3), owed(7, 8, 500, on(6)), withdraw(8, 99))
	homeless := w
	homeless.homes = nil
	checkLasts(t, []asked{
		{"not known yet", w, 1, 9, none},
		{"known", w, 1, 10, until(30)},
		{"gone long ago", w, 1, 31, until(30)},
		{"not withdrawn yet", w, 2, 11, until(30)},
		{"withdrawn", w, 2, 12, none},
		{"a withdrawal", w, 3, 12, none},
		{"a withdrawal that strays", w, 8, 12, none},
		{"a correction", w, 4, 12, none},
		{"no report", w, 5, 12, none},
		{"its kind has no law", w, 6, 12, none},
		{"its account has no home", w, 7, 12, none},
		{"there are no homes", homeless, 1, 12, none},
		{"there are no reports", w.with(nil), 1, 12, none},
		{"no Id", w, -1, 12, none},
		{"no laws", landOne(nil, w.l...), 1, 12, none},
	})
}
