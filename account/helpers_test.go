package account_test

import (
	"fmt"
	"math"
	"math/rand"
	"slices"
	"testing"

	"goodname/account"
	"goodname/api"
)

// change is done to a report before it is used.
type change func(r *api.Report)

func made(day int) change     { return func(r *api.Report) { r.Made = day } }
func by(source int) change    { return func(r *api.Report) { r.Source = source } }
func on(account int) change   { return func(r *api.Report) { r.Account = account } }
func names(report int) change { return func(r *api.Report) { r.Of = report } }

// fact is one of the account 5 by the source 70, made on 10, if it is not changed.
func fact(kind uint8, id, about, cents int, changes ...change) api.Report {
	r := api.Report{Id: id, Source: 70, Account: 5, Made: 10, About: about, Kind: kind, Cents: cents}
	for _, f := range changes {
		f(&r)
	}
	return r
}

func opened(id, about int, l ...change) api.Report { return fact(api.RepOpened, id, about, 0, l...) }
func closed(id, about int, l ...change) api.Report { return fact(api.RepClosed, id, about, 0, l...) }

func limit(id, about, cents int, l ...change) api.Report {
	return fact(api.RepLimit, id, about, cents, l...)
}

func owed(id, about, cents int, l ...change) api.Report {
	return fact(api.RepOwed, id, about, cents, l...)
}

func paid(id, about, cents int, l ...change) api.Report {
	return fact(api.RepPaid, id, about, cents, l...)
}

func late(id, about, days int, l ...change) api.Report {
	return fact(api.RepLate, id, about, days, l...)
}

func defaulted(id, about, cents int, l ...change) api.Report {
	return fact(api.RepDefault, id, about, cents, l...)
}

func correct(id, of, about, cents int, l ...change) api.Report {
	return fact(api.RepCorrect, id, about, cents, append([]change{names(of)}, l...)...)
}

func withdraw(id, of int, l ...change) api.Report {
	return fact(api.RepWithdraw, id, 0, 0, append([]change{names(of)}, l...)...)
}

func yes(cents, since int, by ...int) api.Told {
	return api.Told{Known: api.KnownYes, Cents: cents, Since: since, By: by}
}

func open(since int, by ...int) api.Told {
	return api.Told{Known: api.KnownOpen, Since: since, By: by}
}

// same compares by what is printed, where a nil list and an empty one are the
// same.
func same(a, b any) bool { return fmt.Sprint(a) == fmt.Sprint(b) }

// odd are numbers that are not what a field takes, of whatever size: some are
// valid ones in fewer bits.
func odd(lo, hi int) []int {
	return []int{lo - 1, hi + 1, math.MinInt, math.MaxInt, math.MinInt + 1, math.MaxInt - 1, 1<<48 + lo, -(1 << 48) + hi, -1 << 31}
}

// A story has Ids, accounts and days below these.
const (
	storyIds      = 24
	storyAccounts = 3
	storyDays     = 7
)

// fated is what Fate answers.
type fated struct {
	fate uint8
	by   int
	e    api.Errno
}

// answers are all that can be asked of a story.
type answers struct {
	standing tale
	fates    [storyIds]fated
	states   [storyAccounts][storyDays]api.State
	clashes  [storyAccounts][]api.Clash
}

// ask calls all functions for a story, and tells of errors that should not be.
func ask(t *testing.T, l []api.Report, known int) answers {
	t.Helper()
	var out answers
	var e api.Errno
	note := func() {
		if e != api.OK {
			t.Fatal(l, known, e)
		}
	}
	e = account.Check(l)
	note()
	out.standing, e = account.Standing(l, known)
	note()
	for id := range storyIds {
		out.fates[id].fate, out.fates[id].by, out.fates[id].e = account.Fate(l, id, known)
	}
	for a := range storyAccounts {
		for day := range storyDays {
			out.states[a][day], e = account.State(l, a, day, known)
			note()
		}
		out.clashes[a], e = account.Clashes(l, a, known)
		note()
	}
	return out
}

// toldless leaves out what became of reports: what is left is what accounts are
// told to be.
func (a answers) toldless() answers {
	a.fates = [storyIds]fated{}
	return a
}

// random makes stories in which reports of all kinds name, correct, withdraw and
// contradict each other.
type random struct{ *rand.Rand }

func newRandom(seed int64) random { return random{rand.New(rand.NewSource(seed))} }

func pick[T any](r random, l ...T) T { return l[r.Intn(len(l))] }

func mixedUp[T any](r random, l []T) []T {
	out := slices.Clone(l)
	r.Shuffle(len(out), func(i, j int) { out[i], out[j] = out[j], out[i] })
	return out
}

func (r random) report(id int) api.Report {
	a := api.Report{Id: id, Source: 70 + r.Intn(2), Account: pick(r, 1, 1, 1, 2), Made: r.Intn(storyDays), About: pick(r, 2, 2, 2, 3, 3, r.Intn(storyDays))}
	a.Kind = uint8(pick(r, 1, 1, 2, 2, 3, 3, 4, 4, 5, 5, 6, 6, 7, 7, 8, 8, 8, 8, 9, 9))
	if a.Kind != api.RepOpened && a.Kind != api.RepClosed {
		a.Cents = pick(r, 0, 1, 1, 2)
	}
	if a.Kind == api.RepCorrect {
		a.Cents = pick(r, 0, 0, 1, 1, api.MaxLate, api.MaxLate+1)
	}
	if a.Kind == api.RepWithdraw {
		a.About, a.Cents = 0, 0
	}
	return a
}

// reports returns a story, with some of its reports more than once.
func (r random) reports() []api.Report {
	var l []api.Report
	for _, id := range r.Perm(storyIds)[:1+r.Intn(storyIds-1)] {
		l = append(l, r.report(id))
	}
	for i := range l {
		if l[i].Kind < api.RepCorrect {
			continue
		}
		of := pick(r, l...)
		if r.Intn(5) > 0 {
			l[i].Source, l[i].Account = of.Source, of.Account
		}
		if l[i].Of = of.Id; of.Id == l[i].Id {
			l[i].Of = (of.Id + 1) % storyIds
		}
	}
	for range r.Intn(6) {
		l = append(l, pick(r, l...))
	}
	return l
}

// inAnyOrder calls a test with a list in some orders, and with some of it twice.
func inAnyOrder(l []api.Report, try func(l []api.Report)) {
	r := newRandom(int64(len(l)))
	for range 6 {
		try(l)
		l = mixedUp(r, l)
	}
	if 2*len(l) <= api.MaxReports {
		try(mixedUp(r, slices.Concat(l, l)))
	}
}
