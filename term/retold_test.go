package term_test

import (
	"slices"
	"testing"

	"goodname/account"
	"goodname/api"
)

// lawOf returns the law of a fact, told again by the definition, as it is
// written.
func (w world) lawOf(f api.Report) (api.Law, bool) {
	for _, h := range w.homes {
		for _, l := range w.code.Laws {
			if h.Account == f.Account && l.Land == h.Land && l.Kind == f.Kind {
				return l, true
			}
		}
	}
	return api.Law{}, false
}

// lastOf returns the last day of one of the facts on a day that has a law.
func lastOf(facts []api.Report, f api.Report, l api.Law) int {
	switch l.Base {
	case api.BaseAbout:
		return f.About + l.Keep
	case api.BaseMade:
		return f.Made + l.Keep
	}
	for day := range storyDays {
		for _, c := range facts {
			if c.Kind == api.RepClosed && c.Account == f.Account && c.About == day {
				return day + l.Keep
			}
		}
	}
	return api.NeverEnds
}

// retold returns all answers to a story on a day, told again by the definitions.
func (w world) retold(t *testing.T, day int) answers {
	t.Helper()
	var out answers
	for id := range out.lasts {
		out.lasts[id] = none
	}
	facts := w.facts(t, day)
	var shown [storyAccounts][]api.Report
	for a := range out.views {
		out.views[a].Ends = api.NeverEnds
	}
	for _, f := range facts {
		l, ok := w.lawOf(f)
		last := -1
		if ok {
			last = lastOf(facts, f, l)
			out.lasts[f.Id] = until(last)
		}
		v := &out.views[f.Account]
		switch {
		case f.About <= day && day <= last:
			shown[f.Account] = append(shown[f.Account], f)
			v.Shown = append(v.Shown, f.Id)
			if last != api.NeverEnds {
				v.Ends = min(v.Ends, last+1)
			}
		case f.About <= day:
			out.gone = append(out.gone, f.Id)
		}
	}
	slices.Sort(out.gone)
	for a := range out.views {
		slices.Sort(out.views[a].Shown)
		w.retellState(t, &out.views[a], a, shown[a], day)
	}
	return out
}

// retellState tells State and Silent of a view by the facts that are shown.
func (w world) retellState(t *testing.T, v *api.View, a int, shown []api.Report, day int) {
	t.Helper()
	var e api.Errno
	if v.State, e = account.State(shown, a, day, day); e != api.OK {
		t.Fatal(shown, a, day, e)
	}
	for _, s := range w.code.Stills {
		since := 0
		for _, f := range shown {
			since = max(since, f.Made+s.Days)
		}
		land := slices.Contains(w.homes, api.Home{Account: a, Land: s.Land})
		if !land || len(shown) == 0 || v.State.Closed.Known != api.KnownNo || day <= since {
			continue
		}
		v.Silent = true
		switch s.Means {
		case api.StillClosed:
			v.State.Closed, v.State.Is = quiet(since), api.AccountClosed
		case api.StillPaid:
			v.State.Owed = quiet(since)
		}
		return
	}
}

// P4.2 to P4.4: all answers are those of the definitions.
func TestAllAnswers(t *testing.T) {
	r := newRandom(3)
	var shown, gone, silent, never int
	for range 200 {
		w := r.world()
		for day := range storyDays {
			got, want := w.ask(t, day), w.retold(t, day)
			if !same(got, want) {
				t.Fatal(w, day, got, want)
			}
			gone += len(got.gone)
			for _, v := range got.views {
				shown += len(v.Shown)
				if v.Silent {
					silent++
				}
				if len(v.Shown) > 0 && v.Ends == api.NeverEnds {
					never++
				}
			}
		}
	}
	if min(shown, gone, silent, never) < 500 {
		t.Error("too few are shown, gone, silent, or never end", shown, gone, silent, never)
	}
}
