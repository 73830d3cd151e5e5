package account_test

import (
	"slices"
	"testing"

	"goodname/account"
	"goodname/api"
)

var (
	stands   = fated{api.FateStands, -1, api.OK}
	works    = fated{api.FateWorks, -1, api.OK}
	strays   = fated{api.FateStray, -1, api.OK}
	notKnown = fated{0, 0, api.ErrNone}
)

func corrected(by int) fated { return fated{api.FateCorrected, by, api.OK} }
func withdrawn(by int) fated { return fated{api.FateWithdrawn, by, api.OK} }

// fates is what became of reports, by their Ids.
type fates map[int]fated

func checkFates(t *testing.T, name string, l []api.Report, known int, want fates) {
	t.Helper()
	inAnyOrder(l, func(l []api.Report) {
		for id, x := range want {
			if f, by, e := account.Fate(l, id, known); x != (fated{f, by, e}) {
				t.Error(name, known, id, f, by, e)
			}
		}
	})
}

// P3.2: which withdrawals work.
func TestFateOfWithdrawals(t *testing.T) {
	for _, x := range []struct {
		name string
		l    []api.Report
		want fates
	}{
		{"of a fact", []api.Report{owed(1, 2, 3), withdraw(2, 1)}, fates{1: withdrawn(2), 2: works}},
		{"of a correction", []api.Report{owed(1, 2, 3), correct(2, 1, 2, 4), withdraw(3, 2)}, fates{1: stands, 2: withdrawn(3), 3: works}},
		{"of a correction that strays", []api.Report{correct(2, 1, 2, 4), withdraw(3, 2)}, fates{2: withdrawn(3), 3: works}},
		{"of a withdrawal that works", []api.Report{owed(1, 2, 3), withdraw(2, 1), withdraw(3, 2)}, fates{1: withdrawn(2), 2: works, 3: strays}},
		{"of a withdrawal that strays", []api.Report{withdraw(2, 1), withdraw(3, 2)}, fates{1: notKnown, 2: strays, 3: strays}},
		{"of each other", []api.Report{withdraw(2, 3), withdraw(3, 2)}, fates{2: strays, 3: strays}},
		{"of nothing", []api.Report{owed(1, 2, 3), withdraw(2, 0)}, fates{1: stands, 2: strays, 0: notKnown}},
		{"of 0", []api.Report{owed(0, 2, 3), withdraw(2, 0)}, fates{0: withdrawn(2), 2: works}},
		{"by 0", []api.Report{owed(1, 2, 3), withdraw(0, 1)}, fates{1: withdrawn(0), 0: works}},
		{"by another source", []api.Report{owed(1, 2, 3), withdraw(2, 1, by(71))}, fates{1: stands, 2: strays}},
		{"by another account", []api.Report{owed(1, 2, 3), withdraw(2, 1, on(6))}, fates{1: stands, 2: strays}},
		{"of a correction by another source", []api.Report{owed(1, 2, 3), correct(2, 1, 2, 4), withdraw(3, 2, by(71))}, fates{1: corrected(2), 2: works, 3: strays}},
		{"of a correction by another account", []api.Report{owed(1, 2, 3), correct(2, 1, 2, 4), withdraw(3, 2, on(6))}, fates{1: corrected(2), 2: works, 3: strays}},
		{"twice", []api.Report{owed(9, 2, 3), withdraw(8, 9), withdraw(4, 9), withdraw(6, 9)}, fates{9: withdrawn(4), 4: works, 6: works, 8: works}},
		{"twice, the first one made has the greater Id", []api.Report{owed(1, 2, 3), withdraw(8, 1, made(10)), withdraw(4, 1, made(20))}, fates{1: withdrawn(4), 4: works, 8: works}},
		{"twice, once by another source", []api.Report{owed(9, 2, 3), withdraw(3, 9, by(71)), withdraw(4, 9)}, fates{9: withdrawn(4), 3: strays, 4: works}},
		{"made before what it withdraws", []api.Report{owed(1, 2, 3, made(20)), withdraw(2, 1, made(10))}, fates{1: withdrawn(2), 2: works}},
		{"of each kind", append(oneOfEach()[:7:7], withdraw(11, 1), withdraw(12, 2), withdraw(13, 3), withdraw(14, 4), withdraw(15, 5), withdraw(16, 6), withdraw(17, 7)), fates{1: withdrawn(11), 2: withdrawn(12), 3: withdrawn(13), 4: withdrawn(14), 5: withdrawn(15), 6: withdrawn(16), 7: withdrawn(17)}},
	} {
		checkFates(t, x.name, x.l, 20, x.want)
	}
}

// P3.2: which corrections work.
func TestFateOfCorrections(t *testing.T) {
	l := []api.Report{owed(1, 2, 3), correct(2, 1, 2, 4, made(12)), correct(3, 1, 2, 5, made(14)), correct(4, 1, 2, 6, made(14)), correct(5, 1, 2, 7, made(13))}
	with := func(more ...api.Report) []api.Report { return slices.Concat(l, more) }
	for _, x := range []struct {
		name string
		l    []api.Report
		want fates
	}{
		{"of a fact", []api.Report{owed(1, 2, 3), correct(2, 1, 2, 4)}, fates{1: corrected(2), 2: works}},
		{"to what it is", []api.Report{owed(1, 2, 3), correct(2, 1, 2, 3)}, fates{1: corrected(2), 2: works}},
		{"of 0, by 1", []api.Report{owed(0, 2, 3), correct(1, 0, 2, 4)}, fates{0: corrected(1), 1: works}},
		{"of 1, by 0", []api.Report{owed(1, 2, 3), correct(0, 1, 2, 4)}, fates{0: works, 1: corrected(0)}},
		{"by another source", []api.Report{owed(1, 2, 3), correct(2, 1, 2, 4, by(71))}, fates{1: stands, 2: strays}},
		{"by another account", []api.Report{owed(1, 2, 3), correct(2, 1, 2, 4, on(6))}, fates{1: stands, 2: strays}},
		{"of nothing", []api.Report{owed(1, 2, 3), correct(2, 7, 2, 4)}, fates{1: stands, 2: strays, 7: notKnown}},
		{"of a correction", []api.Report{owed(1, 2, 3), correct(2, 1, 2, 4), correct(3, 2, 2, 5)}, fates{1: corrected(2), 2: works, 3: strays}},
		{"of a withdrawal", []api.Report{owed(1, 2, 3), withdraw(2, 1), correct(3, 2, 2, 0)}, fates{1: withdrawn(2), 2: works, 3: strays}},
		{"of each other", []api.Report{correct(2, 3, 2, 4), correct(3, 2, 2, 4)}, fates{2: strays, 3: strays}},
		{"of a fact that is withdrawn", []api.Report{owed(1, 2, 3), correct(2, 1, 2, 4), withdraw(3, 1)}, fates{1: withdrawn(3), 2: strays, 3: works}},
		{"both are withdrawn", []api.Report{owed(1, 2, 3), correct(2, 1, 2, 4), withdraw(3, 1), withdraw(4, 2)}, fates{1: withdrawn(3), 2: withdrawn(4), 3: works, 4: works}},
		{"made before what it corrects", []api.Report{owed(1, 2, 3, made(20)), correct(2, 1, 2, 4)}, fates{1: corrected(2), 2: works}},
		{"the last one by Made, then by Id", l, fates{1: corrected(4), 2: strays, 3: strays, 4: works, 5: strays}},
		{"it is withdrawn", with(withdraw(6, 4)), fates{1: corrected(3), 3: works, 4: withdrawn(6), 5: strays}},
		{"two are withdrawn", with(withdraw(6, 4), withdraw(7, 3)), fates{1: corrected(5), 2: strays, 5: works}},
		{"all are withdrawn", with(withdraw(6, 4), withdraw(7, 3), withdraw(8, 2), withdraw(9, 5)), fates{1: stands, 2: withdrawn(8), 5: withdrawn(9)}},
		{"a later one by another source", with(correct(6, 1, 2, 9, made(16), by(71))), fates{1: corrected(4), 4: works, 6: strays}},
		{"a later one by another account", with(correct(6, 1, 2, 9, made(16), on(6))), fates{1: corrected(4), 4: works, 6: strays}},
	} {
		checkFates(t, x.name, x.l, 20, x.want)
	}
}

// P3.2: the Cents of a correction are valid for the kind of the fact, or it
// strays, and an earlier one works.
func TestFateOfCorrectionsWithOtherCents(t *testing.T) {
	for _, r := range oneOfEach()[:7] {
		top := most(r.Kind)
		l := []api.Report{r, correct(11, r.Id, 4, top, made(12))}
		checkFates(t, "the most", l, 20, fates{r.Id: corrected(11), 11: works})
		checkFates(t, "none", []api.Report{r, correct(11, r.Id, 4, 0)}, 20, fates{r.Id: corrected(11), 11: works})
		if top == api.MaxMoney {
			continue
		}
		for _, n := range []int{top + 1, 2*top + 9, api.MaxMoney} {
			bad := correct(12, r.Id, 4, n, made(14))
			checkFates(t, "alone", []api.Report{r, bad}, 20, fates{r.Id: stands, 12: strays})
			checkFates(t, "after another one", append(l[:2:2], bad), 20, fates{r.Id: corrected(11), 11: works, 12: strays})
			checkFates(t, "withdrawn", append(l[:2:2], bad, withdraw(13, 12)), 20, fates{r.Id: corrected(11), 12: withdrawn(13), 13: works})
		}
	}
}

// P3.2: what is known on a day is what was made until this day.
func TestFateByDays(t *testing.T) {
	l := []api.Report{owed(1, 90, 3, made(10)), correct(2, 1, 80, 4, made(12)), correct(3, 1, 70, 5, made(14)), withdraw(4, 3, made(16)), withdraw(5, 1, made(18)), withdraw(0, 1, made(20)), withdraw(6, 4, made(22))}
	for _, x := range []struct {
		known int
		want  fates
	}{
		{0, fates{1: notKnown}},
		{9, fates{1: notKnown, 2: notKnown, 6: notKnown}},
		{10, fates{1: stands, 2: notKnown}},
		{11, fates{1: stands, 2: notKnown}},
		{12, fates{1: corrected(2), 2: works, 3: notKnown}},
		{13, fates{1: corrected(2), 2: works}},
		{14, fates{1: corrected(3), 2: strays, 3: works, 4: notKnown}},
		{15, fates{1: corrected(3), 2: strays, 3: works}},
		{16, fates{1: corrected(2), 2: works, 3: withdrawn(4), 4: works, 5: notKnown}},
		{17, fates{1: corrected(2), 2: works, 3: withdrawn(4)}},
		{18, fates{1: withdrawn(5), 2: strays, 3: withdrawn(4), 4: works, 5: works, 0: notKnown}},
		{19, fates{1: withdrawn(5), 5: works}},
		{20, fates{1: withdrawn(0), 0: works, 5: works}},
		{api.MaxDay, fates{1: withdrawn(0), 0: works, 4: works, 5: works, 6: strays}},
	} {
		checkFates(t, "by days", l, x.known, x.want)
	}
}

// P3.2: what is withdrawn, or named, before it is known.
func TestFateOfWhatIsNotKnownYet(t *testing.T) {
	l := []api.Report{withdraw(2, 1, made(10)), correct(4, 3, 2, 9, made(10)), owed(1, 2, 3, made(20)), owed(3, 2, 3, made(20))}
	checkFates(t, "before", l, 19, fates{1: notKnown, 2: strays, 3: notKnown, 4: strays})
	checkFates(t, "after", l, 20, fates{1: withdrawn(2), 2: works, 3: corrected(4), 4: works})
}

// P3.2: ErrNone for Ids of no report, whatever they are.
func TestFateOfNone(t *testing.T) {
	l := []api.Report{owed(1, 2, 3), withdraw(api.MaxId, 2), correct(5, 7, 2, 3)}
	none := fates{0: notKnown, 2: notKnown, 7: notKnown}
	for _, n := range odd(0, api.MaxId) {
		none[n] = notKnown
	}
	checkFates(t, "none", l, api.MaxDay, none)
	checkFates(t, "no reports", nil, 0, none)
}

// P3.1: facts as they stand, by About, then by Id.
func TestStanding(t *testing.T) {
	l := []api.Report{
		owed(5, 20, 7), limit(4, 20, 9, by(71)), opened(9, 3, on(6), made(11)), paid(2, 20, 1, by(72)), late(8, 19, 30), closed(6, 25), defaulted(3, 22, 8),
		correct(11, 5, 4, 6, made(15)), correct(12, 6, 21, 0, made(15)), withdraw(13, 3, made(16)), correct(14, 2, 5, 5, made(17)), withdraw(15, 5, made(18)),
	}
	was := func(r api.Report, day, n int) api.Report {
		r.About, r.Cents = day, n
		return r
	}
	for _, x := range []struct {
		known int
		want  []api.Report
	}{
		{0, nil},
		{9, nil},
		{10, []api.Report{l[4], l[3], l[1], l[0], l[6], l[5]}},
		{11, []api.Report{l[2], l[4], l[3], l[1], l[0], l[6], l[5]}},
		{15, []api.Report{l[2], was(l[0], 4, 6), l[4], l[3], l[1], was(l[5], 21, 0), l[6]}},
		{16, []api.Report{l[2], was(l[0], 4, 6), l[4], l[3], l[1], was(l[5], 21, 0)}},
		// 14 is of another source than 2.
		{17, []api.Report{l[2], was(l[0], 4, 6), l[4], l[3], l[1], was(l[5], 21, 0)}},
		{18, []api.Report{l[2], l[4], l[3], l[1], was(l[5], 21, 0)}},
		{api.MaxDay, []api.Report{l[2], l[4], l[3], l[1], was(l[5], 21, 0)}},
	} {
		inAnyOrder(l, func(l []api.Report) {
			if s, e := account.Standing(l, x.known); e != api.OK || !slices.Equal(s, x.want) {
				t.Error(x.known, s, e)
			}
		})
	}
}

// P3.1: facts of all sources and accounts that are about one day, and have been
// corrected to be, go by their Ids.
func TestStandingOfOneDay(t *testing.T) {
	var l, want []api.Report
	for id := range 20 {
		r := owed(id, 5, id, by(90-id), on(id%3), made(30-id))
		want = append(want, r)
		if id%4 == 0 {
			r.About, r.Cents = 50-id, 1
			l = append(l, correct(40+id, id, 5, id, by(90-id), on(id%3), made(30)))
		}
		l = append(l, r)
	}
	inAnyOrder(l, func(l []api.Report) {
		if s, e := account.Standing(l, 30); e != api.OK || !slices.Equal(s, want) {
			t.Error(s, e)
		}
	})
}
