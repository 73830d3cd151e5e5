package account_test

import (
	"slices"
	"testing"

	"goodname/account"
	"goodname/api"
)

// cents sets the Cents, about the About of a report.
func cents(n int) change { return func(r *api.Report) { r.Cents = n } }
func about(n int) change { return func(r *api.Report) { r.About = n } }

// oneOfEach returns a report of each kind, by increasing kinds.
func oneOfEach() []api.Report {
	return []api.Report{opened(1, 2), limit(2, 2, 3), owed(3, 2, 3), paid(4, 2, 3), late(5, 2, 3), defaulted(6, 2, 3), closed(7, 2), correct(8, 2, 2, 3), withdraw(9, 3)}
}

// most are the most Cents of each kind.
func most(kind uint8) int {
	return []int{0, 0, api.MaxMoney, api.MaxMoney, api.MaxMoney, api.MaxLate, api.MaxMoney, 0, api.MaxMoney, 0}[kind]
}

// errorOf calls all functions, which must agree on an error of the list.
func errorOf(t *testing.T, l []api.Report) api.Errno {
	t.Helper()
	e := account.Check(l)
	s, e1 := account.Standing(l, api.MaxDay)
	f, by, e2 := account.Fate(l, 1, api.MaxDay)
	st, e3 := account.State(l, 5, api.MaxDay, api.MaxDay)
	c, e4 := account.Clashes(l, 5, api.MaxDay)
	if e == api.OK && e2 == api.ErrNone {
		e2 = api.OK
	}
	if e1 != e || e2 != e || e3 != e || e4 != e {
		t.Error("errors differ", l, e, e1, e2, e3, e4)
	}
	if e != api.OK && (len(s) > 0 || f != 0 || by != 0 || !same(st, api.State{}) || len(c) > 0) {
		t.Error("something is beside an error", l, s, f, by, st, c)
	}
	return e
}

// P3.1: reports at the limits of what is valid.
func TestCheckOfValidReports(t *testing.T) {
	var low, high []api.Report
	for _, r := range oneOfEach() {
		a, b := r, r
		a.Source, a.Account, a.Made, a.About, a.Cents = 0, 0, 0, 0, 0
		b.Source, b.Account, b.Made, b.Cents = api.MaxId, api.MaxId, api.MaxDay, most(r.Kind)
		if r.Kind != api.RepWithdraw {
			b.About = api.MaxDay
		}
		low, high = append(low, a), append(high, b)
		for _, ids := range [][2]int{{0, api.MaxId}, {api.MaxId, 0}} {
			b.Id = ids[0]
			if r.Kind >= api.RepCorrect {
				b.Of = ids[1]
			}
			if e := errorOf(t, []api.Report{b}); e != api.OK {
				t.Error(b, e)
			}
		}
	}
	for i, l := range [][]api.Report{nil, {}, oneOfEach(), low, high} {
		if e := errorOf(t, l); e != api.OK {
			t.Error(i, e)
		}
	}
}

// badReports are invalid, each for one reason alone.
func badReports() []api.Report {
	var out []api.Report
	for _, r := range oneOfEach() {
		bad := func(change func(r *api.Report, n int), l ...int) {
			for _, n := range l {
				a := r
				change(&a, n)
				out = append(out, a)
			}
		}
		bad(func(r *api.Report, n int) { r.Id = n }, odd(0, api.MaxId)...)
		bad(func(r *api.Report, n int) { r.Source = n }, odd(0, api.MaxId)...)
		bad(func(r *api.Report, n int) { r.Account = n }, odd(0, api.MaxId)...)
		bad(func(r *api.Report, n int) { r.Made = n }, odd(0, api.MaxDay)...)
		bad(func(r *api.Report, n int) { r.Cents = n }, odd(0, most(r.Kind))...)
		if r.Kind == api.RepWithdraw {
			bad(func(r *api.Report, n int) { r.About = n }, odd(0, 0)...)
		} else {
			bad(func(r *api.Report, n int) { r.About = n }, odd(0, api.MaxDay)...)
		}
		if r.Kind >= api.RepCorrect {
			bad(func(r *api.Report, n int) { r.Of = n }, append(odd(0, api.MaxId), r.Id)...)
		} else {
			bad(func(r *api.Report, n int) { r.Of = n }, append(odd(0, 0), 2, r.Id)...)
		}
		for _, kind := range []uint8{0, 10, 11, 128, 255} {
			bad(func(r *api.Report, n int) { r.Kind = uint8(n) }, int(kind))
		}
	}
	// What no kind needs, with all else zero.
	for _, kind := range []uint8{0, 10, 255} {
		out = append(out, api.Report{Kind: kind}, api.Report{Kind: kind, Of: 1})
	}
	for _, kind := range []uint8{api.RepCorrect, api.RepWithdraw} {
		out = append(out, api.Report{Kind: kind})
	}
	return out
}

// P3.1: ErrReport unless all reports are valid, wherever the one is that is not.
func TestCheckOfBadReports(t *testing.T) {
	for _, r := range badReports() {
		good := []api.Report{opened(21, 2), owed(22, 2, 3)}
		for at := range len(good) + 1 {
			if e := errorOf(t, slices.Insert(slices.Clone(good), at, r)); e != api.ErrReport {
				t.Error(at, r, e)
			}
		}
	}
}

// P3.1: reports that name others may name any Id, and are valid without them.
func TestCheckOfNames(t *testing.T) {
	for i, l := range [][]api.Report{
		{correct(1, 2, 2, 3)}, {withdraw(1, 2)}, {withdraw(1, 2), withdraw(2, 1)}, {correct(1, 2, 2, 3), correct(2, 1, 2, 3)}, {withdraw(1, 0)}, {correct(0, api.MaxId, 2, 3)},
		{opened(1, 2), correct(2, 1, 2, 7)}, {late(1, 2, 3), correct(2, 1, 2, api.MaxMoney)},
	} {
		if e := errorOf(t, l); e != api.OK {
			t.Error(i, e)
		}
	}
}

// P3.1: two that differ in anything must not have the same Id.
func TestCheckOfReportsThatDiffer(t *testing.T) {
	for i, x := range []struct {
		r, other api.Report
	}{
		{owed(1, 2, 3), owed(1, 2, 3, by(71))},
		{owed(1, 2, 3), owed(1, 2, 3, on(6))},
		{owed(1, 2, 3), owed(1, 2, 3, made(11))},
		{owed(1, 2, 3), owed(1, 3, 3)},
		{owed(1, 2, 3), limit(1, 2, 3)},
		{owed(1, 2, 3), owed(1, 2, 4)},
		{correct(1, 2, 2, 3), correct(1, 3, 2, 3)},
		{withdraw(1, 2), withdraw(1, 0)},
		{withdraw(1, 2, made(4)), withdraw(1, 2, made(api.MaxDay))},
	} {
		between := []api.Report{opened(5, 2), x.r, owed(6, 2, 3), x.r}
		if e := errorOf(t, between); e != api.OK {
			t.Error(i, e)
		}
		for at := range len(between) + 1 {
			if e := errorOf(t, slices.Insert(slices.Clone(between), at, x.other)); e != api.ErrDiffer {
				t.Error(i, at, e)
			}
		}
	}
	if e := errorOf(t, []api.Report{owed(1, 2, 3), owed(2, 2, 3), owed(3, 2, 3)}); e != api.OK {
		t.Error("only their Ids differ", e)
	}
}

// P3.1: at most MaxReports are in the list, each one as often as it is there.
func TestCheckOfMany(t *testing.T) {
	var l []api.Report
	for id := range api.MaxReports {
		l = append(l, owed(id, 2, 3))
	}
	for i, x := range []struct {
		l []api.Report
		e api.Errno
	}{
		{l, api.OK},
		{append(slices.Clone(l), owed(api.MaxReports, 2, 3)), api.ErrMany},
		{append(slices.Clone(l), l[0]), api.ErrMany},
		{slices.Repeat(l[:1], api.MaxReports), api.OK},
		{slices.Repeat(l[:1], api.MaxReports+1), api.ErrMany},
		{slices.Repeat(l, 20), api.ErrMany},
	} {
		if e := errorOf(t, x.l); e != x.e {
			t.Error(i, e)
		}
	}
}

// P3.1: ErrMany comes before ErrReport, and this before ErrDiffer; all of them
// before ErrArg and ErrNone.
func TestOrderOfErrors(t *testing.T) {
	bad, differ := api.Report{}, []api.Report{owed(1, 2, 3), owed(1, 2, 4)}
	for i, x := range []struct {
		l []api.Report
		e api.Errno
	}{
		{slices.Repeat([]api.Report{bad}, api.MaxReports+1), api.ErrMany},
		{append(slices.Repeat(differ, api.MaxReports/2), bad), api.ErrMany},
		{slices.Repeat(differ, api.MaxReports), api.ErrMany},
		{[]api.Report{differ[0], differ[1], bad}, api.ErrReport},
		{[]api.Report{bad, differ[0], differ[1]}, api.ErrReport},
		{[]api.Report{bad, bad}, api.ErrReport},
		{differ, api.ErrDiffer},
	} {
		if e := errorOf(t, x.l); e != x.e {
			t.Error(i, e)
		}
		for _, n := range odd(0, api.MaxId) {
			_, e1 := account.Standing(x.l, n)
			_, _, e2 := account.Fate(x.l, n, n)
			_, e3 := account.State(x.l, n, n, n)
			_, e4 := account.Clashes(x.l, n, n)
			if e1 != x.e || e2 != x.e || e3 != x.e || e4 != x.e {
				t.Error(i, n, e1, e2, e3, e4)
			}
		}
	}
}

// P3.1 to P3.4: ErrArg unless accounts and days are in their ranges, with no
// reports, too.
func TestArguments(t *testing.T) {
	for _, l := range [][]api.Report{nil, oneOfEach()} {
		for _, n := range odd(0, api.MaxDay) {
			s, e1 := account.Standing(l, n)
			f, by, e2 := account.Fate(l, 1, n)
			_, _, e3 := account.Fate(l, -1, n)
			s1, e4 := account.State(l, 5, n, 20)
			s2, e5 := account.State(l, 5, 20, n)
			c, e6 := account.Clashes(l, 5, n)
			for i, e := range []api.Errno{e1, e2, e3, e4, e5, e6} {
				if e != api.ErrArg {
					t.Error(n, i, e)
				}
			}
			if len(s)+len(c) > 0 || f != 0 || by != 0 || !same([]api.State{s1, s2}, make([]api.State, 2)) {
				t.Error(n, s, f, by, s1, s2, c)
			}
		}
		for _, n := range odd(0, api.MaxId) {
			s, e1 := account.State(l, n, 20, 20)
			c, e2 := account.Clashes(l, n, 20)
			if e1 != api.ErrArg || e2 != api.ErrArg || !same(s, api.State{}) || len(c) > 0 {
				t.Error(n, s, c, e1, e2)
			}
		}
		for _, n := range []int{0, api.MaxDay} {
			_, e1 := account.Standing(l, n)
			_, e2 := account.State(l, 5, n, n)
			_, e3 := account.Clashes(l, 5, n)
			_, e4 := account.State(l, 0, n, api.MaxDay-n)
			_, e5 := account.State(l, api.MaxId, n, n)
			_, e6 := account.Clashes(l, 0, n)
			_, e7 := account.Clashes(l, api.MaxId, n)
			for i, e := range []api.Errno{e1, e2, e3, e4, e5, e6, e7} {
				if e != api.OK {
					t.Error(n, i, e)
				}
			}
		}
	}
}
