package trial_test

import (
	"fmt"
	"math"
	"math/rand"
	"slices"
	"testing"

	"goodname/api"
	"goodname/score"
	"goodname/trial"
)

// change is done to a report before it is used.
type change func(r *api.Report)

func by(source int) change { return func(r *api.Report) { r.Source = source } }
func on(id int) change     { return func(r *api.Report) { r.Account = id } }
func of(id int) change     { return func(r *api.Report) { r.Of = id } }

// fact is one of the account 10 by the source 5, if it is not changed.
func fact(kind uint8, id, made, about, cents int, changes ...change) api.Report {
	r := api.Report{Id: id, Source: 5, Account: 10, Made: made, About: about, Kind: kind, Cents: cents}
	for _, f := range changes {
		f(&r)
	}
	return r
}

func opened(id, made, about int, l ...change) api.Report {
	return fact(api.RepOpened, id, made, about, 0, l...)
}

func owed(id, made, about, cents int, l ...change) api.Report {
	return fact(api.RepOwed, id, made, about, cents, l...)
}

func late(id, made, about, days int, l ...change) api.Report {
	return fact(api.RepLate, id, made, about, days, l...)
}

func defaulted(id, made, about int, l ...change) api.Report {
	return fact(api.RepDefault, id, made, about, 100, l...)
}

func closed(id, made, about int, l ...change) api.Report {
	return fact(api.RepClosed, id, made, about, 0, l...)
}

func correct(id, made, report, about, cents int, l ...change) api.Report {
	return fact(api.RepCorrect, id, made, about, cents, append([]change{of(report)}, l...)...)
}

func withdraw(id, made, report int, l ...change) api.Report {
	return fact(api.RepWithdraw, id, made, 0, 0, append([]change{of(report)}, l...)...)
}

func person(day, group int, accounts ...int) api.Applicant {
	return api.Applicant{Day: day, Accounts: accounts, Group: group}
}

func trait(kind uint8, step int) api.Trait { return api.Trait{Kind: kind, Step: step} }

// scale is one with its None first, and the cuts between the points.
func scale(none, first int, cutsAndPoints ...int) api.Scale {
	s := api.Scale{None: none, Points: []int{first}}
	for i := 0; i < len(cutsAndPoints); i += 2 {
		s.Cuts = append(s.Cuts, cutsAndPoints[i])
		s.Points = append(s.Points, cutsAndPoints[i+1])
	}
	return s
}

// cardOf is a model with one card.
func cardOf(need int, l ...api.Scale) api.Model {
	return api.Model{Traits: len(l), Need: need, Cards: []api.Card{{Weight: 1000, Scales: l}}}
}

// examplePlan is the one of the chapter's examples, exampleReports are the
// reports, and examplePeople the people.
func examplePlan() api.Plan {
	return api.Plan{
		Model:  cardOf(10, scale(-5, 0, 20, 12), scale(0, 3, 100, -4), scale(0, 0, 30, -20)),
		Traits: []api.Trait{trait(api.TraitAge, 1), trait(api.TraitOwed, 1000), trait(api.TraitLate, 1)},
		Wait:   30,
	}
}

func exampleReports() []api.Report {
	return []api.Report{
		opened(1, 20, 10),
		owed(2, 40, 35, 50000),
		late(3, 70, 65, 40),
		fact(api.RepDefault, 4, 95, 90, 45000),
	}
}

func examplePeople() []api.Applicant {
	return []api.Applicant{person(50, 1, 10), person(70, 2, 10), person(15, 2, 10)}
}

// ladder is a plan with one trait of a kind: who has a value of n, but 3 at the
// most, has n points, who misses it has -1, and with need points the answer is yes.
func ladder(kind uint8, step, need int) api.Plan {
	return api.Plan{Model: cardOf(need, scale(-1, 0, 1, 1, 2, 2, 3, 3)), Traits: []api.Trait{trait(kind, step)}}
}

// debts tell from the day 1 on of the accounts 1, 2 and 3, of which so many cents
// are owed, and of 9, of which it is open.
func debts() []api.Report {
	return []api.Report{
		owed(1, 1, 1, 1, on(1)), owed(2, 1, 1, 2, on(2)), owed(3, 1, 1, 3, on(3)),
		owed(8, 1, 1, 8, on(9)), owed(9, 1, 1, 9, on(9), by(6)),
	}
}

// owing are people of one group, each with one of the accounts that the debts are
// about.
func owing(accounts ...int) []api.Applicant {
	var l []api.Applicant
	for _, id := range accounts {
		l = append(l, person(5, 0, id))
	}
	return l
}

// drifted, gapped and beside are what Drift, Gap and Both answer, tallied what Run
// does.
type drifted struct {
	drift int
	e     api.Errno
}

type gapped struct {
	gap, high, low int
	e              api.Errno
}

type beside struct {
	both [2][2]int
	e    api.Errno
}

type tallied struct {
	api.Tally
	e api.Errno
}

// valued is what Values answers.
type valued struct {
	values [][]int
	e      api.Errno
}

// world is all that calls are about.
type world struct {
	p, q     api.Plan
	r        []api.Report
	l, later []api.Applicant
	now      int
}

func (w world) values() valued {
	l, e := trial.Values(w.p, w.r, w.l)
	return valued{l, e}
}

func (w world) run() tallied {
	t, e := trial.Run(w.p, w.r, w.l, w.now)
	return tallied{t, e}
}

func (w world) both() beside {
	both, e := trial.Both(w.p, w.q, w.r, w.l)
	return beside{both, e}
}

func (w world) drift() drifted {
	n, e := trial.Drift(w.p, w.r, w.l, w.later)
	return drifted{n, e}
}

func (w world) gap() gapped {
	gap, high, low, e := trial.Gap(w.p, w.r, w.l)
	return gapped{gap, high, low, e}
}

// with returns a world that is changed. Lists of it are to be put, not written to.
func (w world) with(f func(w *world)) world {
	f(&w)
	return w
}

// answers are all that the functions answer.
type answers struct {
	check  api.Errno
	values valued
	run    tallied
	both   beside
	drift  drifted
	gap    gapped
}

func (w world) ask() answers {
	return answers{trial.Check(w.p, w.l), w.values(), w.run(), w.both(), w.drift(), w.gap()}
}

func (a answers) is(b answers) bool { return same(a, b) }

// fine calls all functions for a world that is valid, and whose lists are not
// empty.
func (w world) fine(t *testing.T) answers {
	t.Helper()
	got := w.ask()
	if e := [...]api.Errno{got.check, got.values.e, got.run.e, got.both.e, got.drift.e, got.gap.e}; e != [6]api.Errno{} {
		t.Fatal(w, e)
	}
	return got
}

// same compares by what is printed, where a nil list and an empty one are the
// same.
func same(a, b any) bool { return fmt.Sprint(a) == fmt.Sprint(b) }

// odd are numbers that are not what a field takes, of whatever size: some are
// valid ones in fewer bits.
func odd(lo, hi int) []int {
	return []int{lo - 1, hi + 1, math.MinInt, math.MaxInt, math.MinInt + 1, math.MaxInt - 1, 1<<48 + lo, -(1 << 48) + hi, -1 << 31, 1<<32 + hi}
}

// A story has accounts and days below these.
const (
	storyAccounts = 6
	storyDays     = 24
)

// random makes stories of accounts that are opened, owed, late, in default and
// closed, and of people who ask meanwhile.
type random struct{ *rand.Rand }

func newRandom(seed int64) random { return random{rand.New(rand.NewSource(seed))} }

func pick[T any](r random, l ...T) T { return l[r.Intn(len(l))] }

func mixedUp[T any](r random, l []T) []T {
	out := slices.Clone(l)
	r.Shuffle(len(out), func(i, j int) { out[i], out[j] = out[j], out[i] })
	return out
}

// report is one that is made from a day on. Many are about the same days, so that
// some contradict each other.
func (r random) report(id, from int) api.Report {
	made := from + r.Intn(max(1, storyDays-from))
	kind := pick[uint8](r, 1, 1, 2, 3, 3, 3, 4, 5, 5, 5, 6, 6, 7, 8, 9)
	about := max(0, made-5+r.Intn(7)) / 3 * 3
	x := fact(kind, id, made, about, 0, on(pick(r, 0, 0, 0, 1, 1, 2, 3, 4)), by(5+r.Intn(2)))
	if x.Kind != api.RepOpened && x.Kind != api.RepClosed {
		x.Cents = pick(r, 0, 1, 2, 7, 30)
	}
	return x
}

// settle lets the corrections and withdrawals of a list name others of it, or of a
// list before it.
func (r random) settle(l, before []api.Report) []api.Report {
	all := slices.Concat(before, l)
	for i := range l {
		if l[i].Kind < api.RepCorrect {
			continue
		}
		to := pick(r, all...)
		l[i].Of, l[i].Source, l[i].Account = to.Id, to.Source, to.Account
		if to.Id == l[i].Id {
			l[i].Of = to.Id + 1
		}
		if l[i].Kind == api.RepWithdraw {
			l[i].About, l[i].Cents = 0, 0
		}
	}
	return l
}

func (r random) reports() []api.Report {
	var l []api.Report
	for _, id := range r.Perm(40)[:10+r.Intn(30)] {
		l = append(l, r.report(id, 0))
	}
	return r.settle(l, nil)
}

func (r random) applicant() api.Applicant {
	held := r.Perm(storyAccounts)[:pick(r, 0, 1, 1, 2, 2, 3, 4)]
	slices.Sort(held)
	return person(r.Intn(storyDays), pick(r, 0, 0, 4, 4, 9, r.Intn(10)), held...)
}

func (r random) people(n int) []api.Applicant {
	var l []api.Applicant
	for range n {
		l = append(l, r.applicant())
	}
	return l
}

// scale is one whose cuts are small, as values are.
func (r random) scale() api.Scale {
	s := scale(r.Intn(9)-4, r.Intn(9)-4)
	for cut := 1; cut < 12 && len(s.Cuts) < api.MaxCuts; cut++ {
		if r.Intn(3) == 0 {
			s.Cuts, s.Points = append(s.Cuts, cut), append(s.Points, r.Intn(9)-4)
		}
	}
	return s
}

// plan is one with from 1 to 5 traits, and a card. Half of them have a tree, too.
func (r random) plan() api.Plan {
	p := api.Plan{Wait: pick(r, 0, 1, 3, 6, 10), Model: api.Model{Traits: 1 + r.Intn(api.MaxTraits), Need: r.Intn(9) - 4}}
	card := api.Card{Weight: pick(r, 1000, 1000, 250), Base: r.Intn(5)}
	for range p.Model.Traits {
		p.Traits = append(p.Traits, trait(uint8(1+r.Intn(5)), pick(r, 1, 1, 1, 2, 5)))
		card.Scales = append(card.Scales, r.scale())
	}
	p.Model.Cards = []api.Card{card}
	if r.Intn(2) == 0 {
		first := api.Node{Trait: r.Intn(p.Model.Traits), Cut: 1 + r.Intn(5), Low: 1, High: 2}
		p.Model.Trees = []api.Tree{{Weight: 500, Nodes: []api.Node{first, leaf(r.Intn(9)), leaf(-r.Intn(9))}}}
	}
	return p
}

func leaf(points int) api.Node { return api.Node{Trait: api.Leaf, Points: points} }

// world has people in both lists. The Need of each plan is about what one of them
// is scored.
func (r random) world() world {
	w := world{p: r.plan(), q: r.plan(), r: r.reports(), l: r.people(1 + r.Intn(12)), later: r.people(1 + r.Intn(12)), now: r.Intn(storyDays + 12)}
	for _, p := range []*api.Plan{&w.p, &w.q} {
		n, _, _ := score.Score(p.Model, valuesAgain(*p, w.r, pick(r, w.l...)))
		p.Model.Need = n/api.Whole + r.Intn(2)
	}
	return w
}
