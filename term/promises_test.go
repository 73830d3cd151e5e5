package term_test

import (
	"slices"
	"testing"

	"goodname/api"
)

// P4.5: each fact on a day is either in the view of its account, or gone, and
// what is not one is neither.
func TestShownOrGone(t *testing.T) {
	r := newRandom(4)
	for range 150 {
		w := r.world()
		for day := range storyDays {
			a := w.ask(t, day)
			var want [storyAccounts][]int
			for _, f := range w.facts(t, day) {
				if f.About > day {
					continue
				}
				want[f.Account] = append(want[f.Account], f.Id)
				if slices.Contains(a.views[f.Account].Shown, f.Id) == slices.Contains(a.gone, f.Id) {
					t.Fatal(w, day, f, a)
				}
			}
			many := len(a.gone)
			for i, v := range a.views {
				many += len(v.Shown)
				for _, id := range v.Shown {
					if !slices.Contains(want[i], id) {
						t.Fatal("of another account, or no fact", w, day, i, v)
					}
				}
			}
			if many != len(slices.Concat(want[:]...)) {
				t.Fatal("gone, and no fact", w, day, a)
			}
		}
	}
}

// rests returns a story as it is if nothing comes after a day, and no fact is
// about a later one.
func (r random) rests(t *testing.T, day int) world {
	t.Helper()
	w := r.world().without(func(r api.Report) bool { return r.Made > day })
	for {
		i := slices.IndexFunc(w.facts(t, day), func(f api.Report) bool { return f.About > day })
		if i < 0 {
			return w
		}
		id := w.facts(t, day)[i].Id
		w = w.without(func(r api.Report) bool { return r.Id == id })
	}
}

// P4.5: on its last day a fact is shown, the day after it is not.
func TestLastDay(t *testing.T) {
	r := newRandom(5)
	found := 0
	for range 500 {
		day := 8
		w := r.rests(t, day)
		for _, f := range w.facts(t, day) {
			last, e := w.last(f.Id, day)
			// One whose last day is over before it is known is never shown.
			if e != api.OK || last < day || last > api.MaxDay-1 {
				continue
			}
			found++
			v, e1 := w.show(f.Account, last)
			after, e2 := w.show(f.Account, last+1)
			gone, e3 := w.gone(last + 1)
			if e1 != api.OK || e2 != api.OK || e3 != api.OK || !slices.Contains(v.Shown, f.Id) || slices.Contains(after.Shown, f.Id) || !slices.Contains(gone, f.Id) {
				t.Fatal(w, f, last, v, after, gone)
			}
		}
	}
	if found < 500 {
		t.Error("too few have a last day", found)
	}
}

// otherCents returns a story in which a fact had other Cents, however often it
// came, and was corrected to others.
func (w world) otherCents(id, more int) world {
	l := slices.Clone(w.l)
	for i := range l {
		if l[i].Id == id || l[i].Kind == api.RepCorrect && l[i].Of == id {
			l[i].Cents += more
		}
	}
	return w.with(l)
}

// P4.6: if a fact that is not shown had other Cents, or, unless it is a closing,
// had never come, all views on this day are the same.
func TestNothingIsDeduced(t *testing.T) {
	r := newRandom(6)
	found, closings := 0, 0
	for range 100 {
		w := r.world()
		for day := range storyDays {
			want := w.views(t, day)
			for _, f := range w.facts(t, day) {
				if slices.Contains(want[f.Account].Shown, f.Id) {
					continue
				}
				found++
				if f.Kind != api.RepOpened && f.Kind != api.RepClosed {
					if got := w.otherCents(f.Id, 1+r.Intn(9)).views(t, day); !same(got, want) {
						t.Fatal("other cents", w, day, f, got, want)
					}
				}
				if f.Kind == api.RepClosed {
					closings++
					continue
				}
				never := w.without(func(r api.Report) bool { return r.Id == f.Id })
				if got := never.views(t, day); !same(got, want) {
					t.Fatal("never came", w, day, f, got, want)
				}
			}
		}
	}
	if found < 1000 || closings < 100 {
		t.Error("too few are not shown", found, closings)
	}
}

// P4.6: what is kept from a closing on is kept from it also if this is
// forgotten itself.
func TestForgottenClosing(t *testing.T) {
	w := landOne([]api.Law{law(api.RepOwed, api.BaseClosed, 30), law(api.RepClosed, api.BaseAbout, 2)}, owed(1, 8, 500), closed(2, 12))
	checkViews(t, []viewed{
		{"the closing is shown", w, 14, shows(api.State{Owed: yes(500, 8, 1), Closed: yes(0, 12, 2), Is: api.AccountClosed}, 15, 1, 2)},
		{"the closing is forgotten", w, 15, shows(owes(yes(500, 8, 1)), 43, 1)},
		{"the last day", w, 42, shows(owes(yes(500, 8, 1)), 43, 1)},
		{"all is forgotten", w, 43, nothing()},
	})
}

// P4.7: in every order, and however often reports came, all answers are the
// same; what comes later changes none of a day before.
func TestAnyOrder(t *testing.T) {
	r := newRandom(7)
	changed := 0
	for range 80 {
		w := r.world()
		for day := range storyDays {
			want := w.ask(t, day)
			more := slices.Clone(w.l)
			for range r.Intn(8) {
				more = append(more, pick(r, w.l...))
			}
			if got := w.with(mixedUp(r, more)).ask(t, day); !same(got, want) {
				t.Fatal("in another order", w, more, day, got, want)
			}
			before := w.without(func(r api.Report) bool { return r.Made > day })
			if got := before.ask(t, day); !same(got, want) {
				t.Fatal("what comes later", w, day, got, want)
			}
			if !same(before.ask(t, day+1), w.ask(t, day+1)) {
				changed++
			}
		}
	}
	if changed < 100 {
		t.Error("too few later reports change anything", changed)
	}
}

// P4.8: if nothing more comes, a view shows the same facts until the day before
// Ends, and not all of them on it; what was once gone does not come back.
func TestEndsOfViews(t *testing.T) {
	r := newRandom(8)
	ended := 0
	for range 150 {
		first := 8
		w := r.rests(t, first)
		was := w.ask(t, first)
		for day := first + 1; day < 2*storyDays; day++ {
			a := w.ask(t, day)
			for i, v := range a.views {
				old := was.views[i]
				if kept := slices.Equal(v.Shown, old.Shown); kept != (day < old.Ends) {
					t.Fatal(w, day, old, v)
				}
				if day < old.Ends {
					continue
				}
				ended++
				if len(except(v.Shown, old.Shown)) > 0 || len(v.Shown) >= len(old.Shown) {
					t.Fatal("not fewer", w, day, old, v)
				}
			}
			if len(except(was.gone, a.gone)) > 0 {
				t.Fatal("came back", w, day, was, a)
			}
			was = a
		}
	}
	if ended < 150 {
		t.Error("too few end", ended)
	}
}

// except returns the Ids of a list that are not in another one.
func except(l, others []int) []int {
	return slices.DeleteFunc(slices.Clone(l), func(id int) bool { return slices.Contains(others, id) })
}

// longer returns a story with laws that keep longer.
func (r random) longer(w world) world {
	laws := slices.Clone(w.code.Laws)
	for i := range laws {
		laws[i].Keep += r.Intn(4)
	}
	w.code.Laws = laws
	return w
}

// P4.9: a code that keeps longer shows no less, and lets no more be gone.
func TestKeepingLonger(t *testing.T) {
	r := newRandom(9)
	more := 0
	for range 120 {
		w := r.world()
		longer := r.longer(w)
		for day := range storyDays {
			a, b := w.ask(t, day), longer.ask(t, day)
			for i, v := range a.views {
				if len(except(v.Shown, b.views[i].Shown)) > 0 {
					t.Fatal("less is shown", w, longer, day, v, b.views[i])
				}
				if len(b.views[i].Shown) > len(v.Shown) {
					more++
				}
			}
			if len(except(b.gone, a.gone)) > 0 {
				t.Fatal("more is gone", w, longer, day, a, b)
			}
			for id, x := range a.lasts {
				if y := b.lasts[id]; x.e != y.e || x.day > y.day {
					t.Fatal("a last day is earlier", w, longer, day, id, x, y)
				}
			}
		}
	}
	if more < 200 {
		t.Error("too few show more", more)
	}
}

// heardOf returns the greatest Made of the facts of a view.
func (w world) heardOf(v api.View) int {
	heard := -1
	for _, r := range w.l {
		if slices.Contains(v.Shown, r.Id) {
			heard = max(heard, r.Made)
		}
	}
	return heard
}

// stillOf returns what an account's land says of silence, if it says anything.
func (w world) stillOf(account int) (api.Still, bool) {
	for _, s := range w.code.Stills {
		if slices.Contains(w.homes, api.Home{Account: account, Land: s.Land}) {
			return s, true
		}
	}
	return api.Still{}, false
}

// meant returns a view in which nothing was heard since a day, as a land means it.
func meant(v api.View, means uint8, day int) api.View {
	v.Silent = true
	if means == api.StillClosed {
		v.State.Closed, v.State.Is = quiet(day), api.AccountClosed
	}
	if means == api.StillPaid {
		v.State.Owed = quiet(day)
	}
	return v
}

// P4.10: silence means what the land says, and nothing where something was heard
// within its days, or the land says nothing.
func TestSilence(t *testing.T) {
	r := newRandom(10)
	var heard, silent [3]int
	for range 200 {
		w := r.world()
		mute := w
		mute.code.Stills = nil
		for day := range storyDays {
			views, without := w.views(t, day), mute.views(t, day)
			for i, v := range views {
				want := without[i]
				if want.Silent {
					t.Fatal("no land says anything", mute, day, i, want)
				}
				s, ok := w.stillOf(i)
				last := w.heardOf(want)
				switch {
				case !ok || last < 0 || want.State.Closed.Known != api.KnownNo:
				case day-last <= s.Days:
					heard[s.Means]++
				default:
					silent[s.Means]++
					want = meant(want, s.Means, last+s.Days)
				}
				if !same(v, want) {
					t.Fatal(w, day, i, v, want)
				}
			}
		}
	}
	if min(slices.Min(heard[:]), slices.Min(silent[:])) < 50 {
		t.Error("too few are heard, or are not", heard, silent)
	}
}
