package account_test

import (
	"cmp"
	"slices"
	"testing"

	"goodname/api"
)

// tale is what is known on a day, told again by the definitions, as they are
// written: each report asks all others, each time.
type tale []api.Report

// known returns the reports that are known on a day, each one once, by Id.
func known(l []api.Report, day int) tale {
	var out tale
	for _, r := range l {
		if r.Made <= day && !slices.Contains(out, r) {
			out = append(out, r)
		}
	}
	slices.SortFunc(out, func(a, b api.Report) int { return a.Id - b.Id })
	return out
}

func (l tale) only(fit func(r api.Report) bool) tale {
	return slices.DeleteFunc(slices.Clone(l), func(r api.Report) bool { return !fit(r) })
}

func isFact(r api.Report) bool {
	return slices.Contains([]uint8{api.RepOpened, api.RepLimit, api.RepOwed, api.RepPaid, api.RepLate, api.RepDefault, api.RepClosed}, r.Kind)
}

// meets tells whether a report names another one that is of the same source and
// account.
func meets(a, b api.Report) bool {
	return a.Of == b.Id && a.Source == b.Source && a.Account == b.Account
}

// withdrawals are those that work of a report, by Id.
func (l tale) withdrawals(r api.Report) tale {
	return l.only(func(w api.Report) bool {
		return w.Kind == api.RepWithdraw && r.Kind != api.RepWithdraw && meets(w, r)
	})
}

func (l tale) withdrawn(r api.Report) bool { return len(l.withdrawals(r)) > 0 }

// corrections are those of a fact that could work, the one that does at the end.
func (l tale) corrections(r api.Report) tale {
	out := l.only(func(c api.Report) bool {
		return c.Kind == api.RepCorrect && !l.withdrawn(c) && isFact(r) && !l.withdrawn(r) && meets(c, r) && centsFit(r.Kind, c.Cents)
	})
	slices.SortFunc(out, func(a, b api.Report) int { return cmp.Or(a.Made-b.Made, a.Id-b.Id) })
	return out
}

func centsFit(kind uint8, cents int) bool {
	switch kind {
	case api.RepOpened, api.RepClosed:
		return cents == 0
	case api.RepLate:
		return cents <= api.MaxLate
	}
	return true
}

func (l tale) fate(id int) fated {
	i := slices.IndexFunc(l, func(r api.Report) bool { return r.Id == id })
	if i < 0 {
		return fated{0, 0, api.ErrNone}
	}
	r := l[i]
	works := slices.ContainsFunc(l, func(other api.Report) bool {
		w, c := l.withdrawals(other), l.corrections(other)
		return slices.Contains(w, r) || len(c) > 0 && c[len(c)-1] == r
	})
	c := l.corrections(r)
	switch {
	case l.withdrawn(r):
		return fated{api.FateWithdrawn, l.withdrawals(r)[0].Id, api.OK}
	case isFact(r) && len(c) > 0:
		return fated{api.FateCorrected, c[len(c)-1].Id, api.OK}
	case isFact(r):
		return fated{api.FateStands, -1, api.OK}
	case works:
		return fated{api.FateWorks, -1, api.OK}
	}
	return fated{api.FateStray, -1, api.OK}
}

func (l tale) standing() tale {
	out := l.only(func(r api.Report) bool { return isFact(r) && !l.withdrawn(r) })
	for i, r := range out {
		for _, c := range l.corrections(r) {
			out[i].About, out[i].Cents = c.About, c.Cents
		}
	}
	slices.SortFunc(out, func(a, b api.Report) int { return cmp.Or(a.About-b.About, a.Id-b.Id) })
	return out
}

func (l tale) ids() []int {
	var out []int
	for _, r := range l {
		out = append(out, r.Id)
	}
	slices.Sort(out)
	return out
}

// told is told by facts that stand, of one kind.
func (l tale) told() api.Told {
	if len(l) == 0 {
		return api.Told{}
	}
	out := api.Told{Known: api.KnownYes, Cents: l[0].Cents, Since: l[0].About, By: l.ids()}
	for _, r := range l {
		out.Since = min(out.Since, r.About)
		if r.About != l[0].About || r.Cents != l[0].Cents {
			out.Known, out.Cents = api.KnownOpen, 0
		}
	}
	return out
}

func (l tale) ofKind(kind uint8) tale {
	return l.only(func(r api.Report) bool { return r.Kind == kind })
}

func (l tale) latest() tale {
	return l.only(func(r api.Report) bool {
		return !slices.ContainsFunc(l, func(other api.Report) bool { return other.About > r.About })
	})
}

func (l tale) about(day int) tale {
	return l.only(func(r api.Report) bool { return r.About == day })
}

// paid is the least and the greatest sum that a source tells of a day.
func (l tale) paid(day int) api.Span {
	var sums []int
	for source := 70; source < 80; source++ {
		sum, some := 0, false
		for _, r := range l.ofKind(api.RepPaid).about(day) {
			if r.Source == source {
				sum, some = sum+r.Cents, true
			}
		}
		if some {
			sums = append(sums, sum)
		}
	}
	if len(sums) == 0 {
		return api.Span{}
	}
	return api.Span{Lo: slices.Min(sums), Hi: slices.Max(sums)}
}

// ofAccount is asked of facts that stand, as state and clashes are.
func (l tale) ofAccount(account, day int) tale {
	return l.only(func(r api.Report) bool { return r.Account == account && r.About <= day })
}

func (l tale) state(account, day int) api.State {
	f := l.ofAccount(account, day)
	s := api.State{
		Opened:  f.ofKind(api.RepOpened).told(),
		Limit:   f.ofKind(api.RepLimit).latest().told(),
		Owed:    f.ofKind(api.RepOwed).latest().told(),
		Late:    f.ofKind(api.RepLate).latest().told(),
		Default: f.ofKind(api.RepDefault).told(),
		Closed:  f.ofKind(api.RepClosed).told(),
	}
	for day := range storyDays {
		s.Paid.Lo += f.paid(day).Lo
		s.Paid.Hi += f.paid(day).Hi
	}
	switch {
	case s.Closed.Known != api.KnownNo:
		s.Is = api.AccountClosed
	case s.Default.Known != api.KnownNo:
		s.Is = api.AccountDefault
	case s.Late.Known == api.KnownOpen || s.Late.Known == api.KnownYes && s.Late.Cents > 0:
		s.Is = api.AccountLate
	case len(f) > 0:
		s.Is = api.AccountOpen
	}
	return s
}

func (l tale) clashes(account int) []api.Clash {
	var out []api.Clash
	f := l.ofAccount(account, storyDays)
	for kind := uint8(api.RepOpened); kind <= api.RepClosed; kind++ {
		k := f.ofKind(kind)
		switch kind {
		case api.RepLimit, api.RepOwed, api.RepLate, api.RepPaid:
			for day := range storyDays {
				d := k.about(day)
				p := d.paid(day)
				if kind != api.RepPaid && d.told().Known == api.KnownOpen || p.Lo != p.Hi {
					out = append(out, api.Clash{Kind: kind, About: day, By: d.ids()})
				}
			}
		default:
			if told := k.told(); told.Known == api.KnownOpen {
				out = append(out, api.Clash{Kind: kind, About: told.Since, By: told.By})
			}
		}
	}
	return out
}

func (l tale) answers() answers {
	out := answers{standing: l.standing()}
	for id := range storyIds {
		out.fates[id] = l.fate(id)
	}
	for a := range storyAccounts {
		for day := range storyDays {
			out.states[a][day] = out.standing.state(a, day)
		}
		out.clashes[a] = out.standing.clashes(a)
	}
	return out
}

// P3.1 to P3.4: all answers are as the chapter defines them.
func TestAnswersAsTold(t *testing.T) {
	r := newRandom(1)
	var fates, states, kinds [10]int
	opens := 0
	for range 800 {
		l := r.reports()
		day := pick(r, r.Intn(storyDays), storyDays, api.MaxDay)
		got, want := ask(t, l, day), known(l, day).answers()
		if !same(got, want) {
			t.Fatal(l, day, got, want)
		}
		for _, f := range want.fates {
			fates[f.fate]++
		}
		for _, c := range want.clashes[1] {
			kinds[c.Kind]++
		}
		for _, s := range want.states[1] {
			states[s.Is]++
			for _, told := range []api.Told{s.Opened, s.Limit, s.Owed, s.Late, s.Default, s.Closed} {
				if told.Known == api.KnownOpen {
					opens++
				}
			}
		}
	}
	enough := func(of string, counts []int) {
		if slices.Min(counts) < 15 {
			t.Error("too few", of, counts)
		}
	}
	enough("fates", fates[:api.FateWorks+1])
	enough("states", states[:api.AccountClosed+1])
	enough("clashes", kinds[api.RepOpened:api.RepClosed+1])
	enough("that are open", []int{opens})
}
