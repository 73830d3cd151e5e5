package dispute_test

import (
	"fmt"
	"math"
	"math/rand"
	"slices"
	"testing"

	"goodname/account"
	"goodname/api"
	"goodname/dispute"
)

// change is done to a report before it is used.
type change func(r *api.Report)

func made(day int) change  { return func(r *api.Report) { r.Made = day } }
func by(source int) change { return func(r *api.Report) { r.Source = source } }
func on(id int) change     { return func(r *api.Report) { r.Account = id } }
func of(id int) change     { return func(r *api.Report) { r.Of = id } }

// fact is one of the account 5 by the source 70, made on 10, if it is not changed.
func fact(kind uint8, id, about, cents int, changes ...change) api.Report {
	r := api.Report{Id: id, Source: 70, Account: 5, Made: 10, About: about, Kind: kind, Cents: cents}
	for _, f := range changes {
		f(&r)
	}
	return r
}

func owed(id, about, cents int, l ...change) api.Report {
	return fact(api.RepOwed, id, about, cents, l...)
}

func opened(id, about int, l ...change) api.Report { return fact(api.RepOpened, id, about, 0, l...) }

func correct(id, report, about, cents int, l ...change) api.Report {
	return fact(api.RepCorrect, id, about, cents, append([]change{of(report)}, l...)...)
}

func withdraw(id, report int, l ...change) api.Report {
	return fact(api.RepWithdraw, id, 0, 0, append([]change{of(report)}, l...)...)
}

func contest(id, report, day int) api.Dispute { return api.Dispute{Id: id, Report: report, Day: day} }

// stands, fixes and drops are answers.
func stands(id, about, day int) api.Answer {
	return api.Answer{Id: id, Dispute: about, Day: day, Says: api.AnswerStands}
}

func drops(id, about, day int) api.Answer {
	return api.Answer{Id: id, Dispute: about, Day: day, Says: api.AnswerDrops}
}

func fixes(id, about, day, since, cents int) api.Answer {
	return api.Answer{Id: id, Dispute: about, Day: day, Says: api.AnswerFixes, About: since, Cents: cents}
}

// asks is that one was told of the account 5.
func asks(id, who, day int) api.Asked { return api.Asked{Id: id, Who: who, Account: 5, Day: day} }

// world is all that calls are about.
type world struct {
	d     api.Desk
	asked []api.Asked
}

// quarrel is a world in which sources have five days for their answers, marks
// stay for three, and who asked within eight days is told.
func quarrel(reports []api.Report, disputes []api.Dispute, answers ...api.Answer) world {
	return world{d: api.Desk{Terms: api.Terms{Answer: 5, Mark: 3, Lately: 8}, Reports: reports, Disputes: disputes, Answers: answers}}
}

// one is a world with one fact, owed 100 from 8 on, and one dispute of it, 51, on
// 12.
func one(answers ...api.Answer) world {
	return quarrel([]api.Report{owed(1, 8, 100)}, []api.Dispute{contest(51, 1, 12)}, answers...)
}

// with returns a world that is changed. Lists of it are to be put, not written to.
func (w world) with(f func(w *world)) world {
	f(&w)
	return w
}

func (w world) told(asked ...api.Asked) world {
	return w.with(func(w *world) { w.asked = asked })
}

// asIs is one of the lists of a world that hides nothing behind its last element.
func asIs[T any](l []T) []T { return slices.Clip(slices.Clone(l)) }

// whereabouts are what Where answers.
type whereabouts struct {
	where   uint8
	decided int
	e       api.Errno
}

// marking is what Mark answers.
type marking struct {
	mark uint8
	e    api.Errno
}

func (w world) where(id, day int) whereabouts {
	where, decided, e := dispute.Where(w.d, id, day)
	return whereabouts{where, decided, e}
}

func (w world) mark(id, day int) marking {
	mark, e := dispute.Mark(w.d, id, day)
	return marking{mark, e}
}

func (w world) due(day int) ([]int, api.Errno) { return dispute.Due(w.d, day) }

func (w world) follow(day int) ([]api.Report, api.Errno) { return dispute.Follow(w.d, day) }

func (w world) letters(day int) ([]api.Letter, api.Errno) {
	return dispute.Letters(w.d, w.asked, day)
}

// same compares by what is printed, where a nil list and an empty one are the
// same.
func same(a, b any) bool { return fmt.Sprint(a) == fmt.Sprint(b) }

// odd are numbers that are not what a field takes, of whatever size: some are
// valid ones in fewer bits.
func odd(lo, hi int) []int {
	return []int{lo - 1, hi + 1, math.MinInt, math.MaxInt, math.MinInt + 1, math.MaxInt - 1, 1<<48 + lo, -(1 << 48) + hi, -1 << 31}
}

// A story has reports with Ids below firstDispute, disputes from there on, and
// accounts and days below these.
const (
	firstDispute  = 16
	storyIds      = 24
	storyAccounts = 3
	storyDays     = 20
)

// answers are all that can be asked of a story on a day.
type answers struct {
	wheres  [storyIds]whereabouts
	marks   [storyIds]marking
	due     []int
	follow  []api.Report
	letters []api.Letter
}

// ask calls all functions for a story, and tells of errors that should not be.
func (w world) ask(t *testing.T, day int) answers {
	t.Helper()
	var out answers
	var e1, e2, e3 api.Errno
	for id := range storyIds {
		out.wheres[id], out.marks[id] = w.where(id, day), w.mark(id, day)
	}
	out.due, e1 = w.due(day)
	out.follow, e2 = w.follow(day)
	out.letters, e3 = w.letters(day)
	if e := [...]api.Errno{dispute.Check(w.d), e1, e2, e3}; e != [4]api.Errno{} {
		t.Fatal(w, day, e)
	}
	return out
}

// standing is the facts that stand in a story, by Id, as reports tell that are
// known on a day.
func standing(t *testing.T, l []api.Report, known int) map[int]api.Report {
	t.Helper()
	facts, e := account.Standing(l, known)
	if e != api.OK {
		t.Fatal(l, known, e)
	}
	out := map[int]api.Report{}
	for _, f := range facts {
		out[f.Id] = f
	}
	return out
}

// random makes stories in which facts are disputed again and again, while their
// sources correct and withdraw them, too.
type random struct{ *rand.Rand }

func newRandom(seed int64) random { return random{rand.New(rand.NewSource(seed))} }

func pick[T any](r random, l ...T) T { return l[r.Intn(len(l))] }

func mixedUp[T any](r random, l []T) []T {
	out := slices.Clone(l)
	r.Shuffle(len(out), func(i, j int) { out[i], out[j] = out[j], out[i] })
	return out
}

func (r random) world() world {
	var w world
	w.d.Terms = api.Terms{Answer: r.Intn(5), Mark: r.Intn(4), Lately: r.Intn(12)}
	w.d.Reports = r.reports()
	for id := firstDispute; id < storyIds; id++ {
		if f := pick(r, w.d.Reports...); f.Kind < api.RepCorrect {
			w.d.Disputes = append(w.d.Disputes, contest(id, f.Id, f.Made+r.Intn(6)))
		}
	}
	w.d.Disputes = mixedUp(r, w.d.Disputes)
	for _, id := range r.Perm(r.Intn(20)) {
		if len(w.d.Disputes) > 0 {
			w.d.Answers = append(w.d.Answers, r.answer(w.d, id))
		}
	}
	for id := range 10 {
		w.asked = append(w.asked, api.Asked{Id: 2 * id, Who: 900 + r.Intn(3), Account: pick(r, 0, 0, 0, 1), Day: r.Intn(storyDays - 4)})
	}
	return w
}

// reports returns a list in which some reports are twice, and some name others,
// or what follows of disputes.
func (r random) reports() []api.Report {
	var l []api.Report
	for _, id := range r.Perm(firstDispute)[:2+r.Intn(firstDispute-2)] {
		f := fact(pick[uint8](r, 1, 2, 3, 3, 3, 4, 5, 5, 6, 7), id, r.Intn(9), 0, made(r.Intn(7)), by(70+r.Intn(2)), on(pick(r, 0, 0, 0, 1)))
		if f.Kind != api.RepOpened && f.Kind != api.RepClosed {
			f.Cents = r.Intn(3)
		}
		l = append(l, f)
	}
	for i := range l {
		to := pick(r, l...)
		if r.Intn(6) > 0 || to.Id == l[i].Id || to.Kind >= api.RepCorrect {
			continue
		}
		if r.Intn(5) == 0 {
			to.Id = firstDispute + r.Intn(storyIds-firstDispute)
		}
		like := []change{made(r.Intn(14)), by(to.Source), on(to.Account)}
		l[i] = pick(r, correct(l[i].Id, to.Id, r.Intn(9), r.Intn(3), like...), withdraw(l[i].Id, to.Id, like...))
	}
	for range r.Intn(4) {
		l = append(l, pick(r, l...))
	}
	return l
}

// answer is one within the term in most cases, now and then before or after it.
// Some that fix a fact let it be as it came.
func (r random) answer(d api.Desk, id int) api.Answer {
	x := pick(r, d.Disputes...)
	f := d.Reports[slices.IndexFunc(d.Reports, func(f api.Report) bool { return f.Id == x.Report })]
	cents := r.Intn(3)
	if f.Kind == api.RepOpened || f.Kind == api.RepClosed {
		cents = 0
	}
	day := max(0, x.Day-1+r.Intn(d.Terms.Answer+4))
	return pick(r, stands(id, x.Id, day), drops(id, x.Id, day), fixes(id, x.Id, day, f.About, f.Cents), fixes(id, x.Id, day, r.Intn(9), cents))
}
