package term_test

import (
	"fmt"
	"math"
	"math/rand"
	"slices"
	"testing"

	"goodname/account"
	"goodname/api"
	"goodname/term"
)

// change is done to a report before it is used.
type change func(r *api.Report)

func made(day int) change   { return func(r *api.Report) { r.Made = day } }
func by(source int) change  { return func(r *api.Report) { r.Source = source } }
func on(account int) change { return func(r *api.Report) { r.Account = account } }

// fact is one of the account 5 by the source 70, made on 10, if it is not changed.
func fact(kind uint8, id, about, cents int, changes ...change) api.Report {
	r := api.Report{Id: id, Source: 70, Account: 5, Made: 10, About: about, Kind: kind, Cents: cents}
	for _, f := range changes {
		f(&r)
	}
	return r
}

func owed(id, about, cents int, l ...change) api.Report {
	return fact(api.RepOwed, id, about, cents, l...)
}

func closed(id, about int, l ...change) api.Report { return fact(api.RepClosed, id, about, 0, l...) }

func correct(id, of, about, cents int, l ...change) api.Report {
	r := fact(api.RepCorrect, id, about, cents, l...)
	r.Of = of
	return r
}

func withdraw(id, of int, l ...change) api.Report {
	r := fact(api.RepWithdraw, id, 0, 0, l...)
	r.Of = of
	return r
}

func yes(cents, since int, by ...int) api.Told {
	return api.Told{Known: api.KnownYes, Cents: cents, Since: since, By: by}
}

// law is one of the land 1.
func law(kind, base uint8, keep int) api.Law {
	return api.Law{Land: 1, Kind: kind, Base: base, Keep: keep}
}

// world is all that calls are about.
type world struct {
	code  api.Code
	homes []api.Home
	l     []api.Report
}

// landOne is a world in which the account 5 is of the land 1.
func landOne(laws []api.Law, l ...api.Report) world {
	return world{api.Code{Laws: laws}, []api.Home{{Account: 5, Land: 1}}, l}
}

// with returns a world with other reports.
func (w world) with(l []api.Report) world {
	w.l = l
	return w
}

// without returns a world without some reports.
func (w world) without(gone func(r api.Report) bool) world {
	return w.with(slices.DeleteFunc(slices.Clone(w.l), gone))
}

// still returns a world in which silence means something in the land 1.
func (w world) still(days int, means uint8) world {
	w.code.Stills = []api.Still{{Land: 1, Days: days, Means: means}}
	return w
}

func (w world) last(id, day int) (int, api.Errno) {
	return term.Last(w.code, w.homes, w.l, id, day)
}

func (w world) show(id, day int) (api.View, api.Errno) {
	return term.Show(w.code, w.homes, w.l, id, day)
}

func (w world) gone(day int) ([]int, api.Errno) {
	return term.Gone(w.code, w.homes, w.l, day)
}

// same compares by what is printed, where a nil list and an empty one are the
// same.
func same(a, b any) bool { return fmt.Sprint(a) == fmt.Sprint(b) }

// odd are numbers that are not what a field takes, of whatever size: some are
// valid ones in fewer bits.
func odd(lo, hi int) []int {
	return []int{lo - 1, hi + 1, math.MinInt, math.MaxInt, math.MinInt + 1, math.MaxInt - 1, 1<<48 + lo, -(1 << 48) + hi, 1<<32 + lo, -1 << 31}
}

// A story has Ids, accounts, lands and days below these. Its last account has no
// home, and its last land no laws.
const (
	storyIds      = 20
	storyAccounts = 4
	storyLands    = 3
	storyDays     = 14
)

// lasting is what Last answers.
type lasting struct {
	day int
	e   api.Errno
}

// answers are all that can be asked of a story on a day.
type answers struct {
	lasts [storyIds]lasting
	views [storyAccounts]api.View
	gone  []int
}

// ask calls all functions for a story, and tells of errors that should not be.
func (w world) ask(t *testing.T, day int) answers {
	t.Helper()
	var out answers
	var e api.Errno
	for id := range storyIds {
		out.lasts[id].day, out.lasts[id].e = w.last(id, day)
	}
	out.views = w.views(t, day)
	if out.gone, e = w.gone(day); e != api.OK {
		t.Fatal(w, day, e)
	}
	return out
}

// views are those of all accounts of a story.
func (w world) views(t *testing.T, day int) [storyAccounts]api.View {
	t.Helper()
	var out [storyAccounts]api.View
	for a := range out {
		var e api.Errno
		if out[a], e = w.show(a, day); e != api.OK {
			t.Fatal(w, a, day, e)
		}
	}
	return out
}

// random makes stories in which facts are shown and forgotten, accounts are
// closed again and again, and fall silent.
type random struct{ *rand.Rand }

func newRandom(seed int64) random { return random{rand.New(rand.NewSource(seed))} }

func pick[T any](r random, l ...T) T { return l[r.Intn(len(l))] }

func mixedUp[T any](r random, l []T) []T {
	out := slices.Clone(l)
	r.Shuffle(len(out), func(i, j int) { out[i], out[j] = out[j], out[i] })
	return out
}

func (r random) world() world {
	var w world
	for land := range storyLands - 1 {
		for kind := uint8(api.RepOpened); kind <= api.RepClosed; kind++ {
			if r.Intn(5) > 0 {
				w.code.Laws = append(w.code.Laws, api.Law{Land: land, Kind: kind, Base: uint8(1 + r.Intn(3)), Keep: r.Intn(8)})
			}
		}
	}
	for land := range storyLands {
		if r.Intn(4) > 0 {
			w.code.Stills = append(w.code.Stills, api.Still{Land: land, Days: 1 + r.Intn(4), Means: uint8(r.Intn(3))})
		}
	}
	for account := range storyAccounts - 1 {
		w.homes = append(w.homes, api.Home{Account: account, Land: pick(r, 0, 0, 0, 1, 1, 2)})
	}
	w.l = r.reports()
	return w
}

func (r random) reports() []api.Report {
	var l []api.Report
	for _, id := range r.Perm(storyIds)[:1+r.Intn(storyIds-1)] {
		l = append(l, r.fact(id))
	}
	for i := range l {
		of := pick(r, l...)
		if r.Intn(4) > 0 || of.Id == l[i].Id || of.Kind >= api.RepCorrect {
			continue
		}
		c := correct(l[i].Id, of.Id, l[i].About, pick(r, 0, 1, 2), made(l[i].Made), by(of.Source), on(of.Account))
		if of.Kind == api.RepOpened || of.Kind == api.RepClosed {
			c.Cents = 0
		}
		l[i] = pick(r, c, c, withdraw(l[i].Id, of.Id, made(l[i].Made), by(of.Source), on(of.Account)))
	}
	for range r.Intn(4) {
		l = append(l, pick(r, l...))
	}
	return l
}

func (r random) fact(id int) api.Report {
	a := fact(uint8(1+r.Intn(7)), id, r.Intn(9), 0, made(r.Intn(9)), by(70+r.Intn(2)), on(pick(r, 0, 0, 0, 1, 1, 2, 3)))
	if a.Kind != api.RepOpened && a.Kind != api.RepClosed {
		a.Cents = r.Intn(3)
	}
	return a
}

// facts are those on a day, which are layer 3's to tell.
func (w world) facts(t *testing.T, day int) []api.Report {
	t.Helper()
	facts, e := account.Standing(w.l, day)
	if e != api.OK {
		t.Fatal(w.l, day, e)
	}
	return facts
}
