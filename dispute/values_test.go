package dispute_test

import (
	"math"
	"slices"
	"testing"

	"goodname/account"
	"goodname/api"
	"goodname/dispute"
)

// saga is a story in which disputes come to all their ends, marks stay, and letters
// are due.
func saga() world {
	w := quarrel([]api.Report{
		owed(1, 3, 100, made(4), on(1)), opened(2, 2, made(3), on(1)), owed(3, 5, 90, made(6), on(1)), correct(4, 3, 5, 91, made(9), on(1)), fact(api.RepLate, 5, 4, 30, made(5), on(1)), owed(6, 3, 1, made(4), on(2)), withdraw(7, 2, made(9), on(1)), owed(3, 5, 90, made(6), on(1)),
	}, []api.Dispute{contest(20, 1, 5), contest(18, 3, 7), contest(22, 2, 6), contest(17, 5, 7), contest(19, 5, 6), contest(16, 1, 8)},
		fixes(5, 20, 8, 3, 70), stands(4, 18, 10), drops(3, 17, 9), drops(1, 20, 9), fixes(2, 16, 12, 2, 60))
	for id := range 8 {
		w.asked = append(w.asked, api.Asked{Id: id, Who: 900 + id%3, Account: 1, Day: 3 + id})
	}
	return w
}

// roomy returns the saga in other orders, with lists that go on behind their last
// elements.
func roomy(r random) world {
	w := saga()
	w.d.Reports = append(mixedUp(r, w.d.Reports), withdraw(8, 1, on(1)), api.Report{Kind: 77}, api.Report{})[:len(w.d.Reports)]
	w.d.Disputes = append(mixedUp(r, w.d.Disputes), contest(23, 1, 5), api.Dispute{Id: -1})[:len(w.d.Disputes)]
	w.d.Answers = append(mixedUp(r, w.d.Answers), drops(0, 20, 5), api.Answer{Says: 9})[:len(w.d.Answers)]
	w.asked = append(slices.Clone(w.asked), api.Asked{Id: 30, Who: 904, Account: 1, Day: 7}, api.Asked{Id: -1})[:len(w.asked)]
	return w
}

// whole returns a copy of all of a list, what is behind its last element too.
func whole[T any](l []T) []T { return slices.Clone(l[:cap(l)]) }

// P5.1 to P5.5, R3: no argument is written to, nor what is behind a list's last
// element, and that does not count.
func TestArgumentsAreNotWrittenTo(t *testing.T) {
	w := roomy(newRandom(17))
	reports, disputes, answers, asked := whole(w.d.Reports), whole(w.d.Disputes), whole(w.d.Answers), whole(w.asked)
	for day := range storyDays {
		want := saga().ask(t, day)
		for range 2 {
			got := w.ask(t, day)
			want.follow = append(asIs(w.d.Reports), want.follow[len(w.d.Reports):]...)
			if !same(got, want) {
				t.Error(day, got, want)
			}
		}
	}
	if !slices.Equal(whole(w.d.Reports), reports) || !slices.Equal(whole(w.d.Disputes), disputes) || !slices.Equal(whole(w.d.Answers), answers) || !slices.Equal(whole(w.asked), asked) {
		t.Error(w)
	}
}

// fill writes to a list, within its capacity too.
func fill[T any](l []T, x T) {
	l = l[:cap(l)]
	for i := range l {
		l[i] = x
	}
}

// R3: results share no memory with arguments, nor with each other.
func TestResultsShareNoMemory(t *testing.T) {
	w := roomy(newRandom(18))
	before := roomy(newRandom(18))
	for day := range storyDays {
		first, again := w.ask(t, day), w.ask(t, day)
		fill(first.due, -1)
		fill(first.follow, api.Report{Id: -1})
		fill(first.letters, api.Letter{Dispute: -1})
		if got := w.ask(t, day); !same(got, again) {
			t.Error(day, got, again)
		}
	}
	if !same(w, before) || !slices.Equal(whole(w.d.Reports), whole(before.d.Reports)) {
		t.Error(w)
	}
}

// R3: no call remembers another one.
func TestNoCallRemembers(t *testing.T) {
	r := newRandom(19)
	want := saga().ask(t, 12)
	for range 40 {
		r.world().ask(t, r.Intn(storyDays))
		bad := saga()
		bad.d.Answers = append(asIs(bad.d.Answers), api.Answer{Id: -1})
		bad.where(20, 12)
		bad.follow(12)
		full := crowd(api.MaxReports + 20)
		full.letters(18)
		if got := saga().ask(t, 12); !same(got, want) {
			t.Fatal(got, want)
		}
	}
}

// R4: a list that is nil is an empty one.
func TestNilAndEmpty(t *testing.T) {
	empty := world{api.Desk{Reports: []api.Report{}, Disputes: []api.Dispute{}, Answers: []api.Answer{}}, []api.Asked{}}
	for _, w := range []world{{}, empty} {
		var want answers
		for id := range want.wheres {
			want.wheres[id].e, want.marks[id].e = api.ErrNone, api.ErrNone
		}
		for _, day := range []int{0, 9, api.MaxDay} {
			if got := w.ask(t, day); !same(got, want) {
				t.Error(got, want)
			}
		}
	}
}

// number is one from 0 to hi in most cases.
func (r random) number(hi int) int {
	if r.Intn(80) > 0 {
		return r.Intn(hi + 1)
	}
	return pick(r, -1, api.MaxId, api.MaxId+1, api.MaxDay, api.MaxDay+1, api.MaxMoney, api.MaxMoney+1, math.MinInt, math.MaxInt, 1<<32+1, -1<<32)
}

// anything returns a world of any numbers.
func (r random) anything() world {
	var w world
	w.d.Terms = api.Terms{Answer: r.number(4), Mark: r.number(4), Lately: r.number(9)}
	for id := range 1 + r.Intn(3) {
		w.d.Reports = append(w.d.Reports, api.Report{Id: id, Account: r.number(1), Made: r.number(3), About: r.number(3), Kind: uint8(2 + r.Intn(3)), Cents: r.number(2)})
	}
	for id := range r.Intn(3) {
		w.d.Disputes = append(w.d.Disputes, contest(pick(r, 10+id, 10+id, 10+id, r.number(12)), r.number(len(w.d.Reports)-1), 3+r.number(5)))
	}
	for id := range r.Intn(4) {
		a := api.Answer{Id: id, Dispute: 10 + r.number(1), Day: 3 + r.number(8), Says: uint8(1 + r.number(2))}
		if a.Says == api.AnswerFixes {
			a.About, a.Cents = r.number(3), r.number(2)
		}
		w.d.Answers = append(w.d.Answers, a)
	}
	for id := range r.Intn(4) {
		w.asked = append(w.asked, api.Asked{Id: id, Who: r.number(2), Account: r.number(1), Day: r.number(9)})
	}
	return w
}

func inRange(n, lo, hi int) bool { return lo <= n && n <= hi }

// valid tells again whether what can be wrong with a world of any numbers is: its
// desk, and those who asked.
func (w world) valid() (desk api.Errno, asked bool) {
	asked = !slices.ContainsFunc(w.asked, func(a api.Asked) bool {
		return !inRange(a.Who, 0, api.MaxId) || !inRange(a.Account, 0, api.MaxId) || !inRange(a.Day, 0, api.MaxDay)
	})
	if x := w.d.Terms; !inRange(x.Answer, 0, api.MaxTerm) || !inRange(x.Mark, 0, api.MaxDay) || !inRange(x.Lately, 0, api.MaxDay) {
		return api.ErrTerms, asked
	}
	if e := account.Check(w.d.Reports); e != api.OK {
		return e, asked
	}
	for i, x := range w.d.Disputes {
		twice := slices.ContainsFunc(w.d.Disputes[:i], func(y api.Dispute) bool { return y.Id == x.Id })
		if twice || !inRange(x.Id, len(w.d.Reports), api.MaxId) || !inRange(x.Report, 0, len(w.d.Reports)-1) || x.Day < w.d.Reports[x.Report].Made || x.Day >= api.MaxDay-w.d.Terms.Answer {
			return api.ErrDispute, asked
		}
	}
	for _, a := range w.d.Answers {
		known := slices.ContainsFunc(w.d.Disputes, func(x api.Dispute) bool { return x.Id == a.Dispute })
		if !known || !inRange(a.Day, 0, api.MaxDay) || !inRange(int(a.Says), 1, 3) || !inRange(a.About, 0, api.MaxDay) || !inRange(a.Cents, 0, api.MaxMoney) {
			return api.ErrAnswer, asked
		}
	}
	return api.OK, asked
}

// errorsOf tells again the errors of a call of each function.
func (w world) errorsOf(id, day int) [6]api.Errno {
	e, asked := w.valid()
	out := [6]api.Errno{e, e, e, e, e, e}
	switch {
	case e != api.OK:
		return out
	case !inRange(day, 0, api.MaxDay):
		return [6]api.Errno{api.OK, api.ErrArg, api.ErrArg, api.ErrArg, api.ErrArg, api.ErrArg}
	case !asked:
		out[5] = api.ErrAsked
	}
	if !slices.ContainsFunc(w.d.Disputes, func(x api.Dispute) bool { return x.Id == id }) {
		out[1] = api.ErrNone
	}
	if !inRange(id, 0, len(w.d.Reports)-1) {
		out[4] = api.ErrNone
	}
	return out
}

// R2, R5 and R7: whatever the arguments are, each call ends, none panics, and
// beside an error is nothing.
func TestAnyArguments(t *testing.T) {
	r := newRandom(20)
	seen := map[api.Errno]int{}
	for range 30000 {
		w, day, id := r.anything(), r.number(12), pick(r, r.number(3), 10+r.number(3))
		x, m := w.where(id, day), w.mark(id, day)
		due, e1 := w.due(day)
		l, e2 := w.follow(day)
		letters, e3 := w.letters(day)
		got := [6]api.Errno{dispute.Check(w.d), x.e, e1, e2, m.e, e3}
		if want := w.errorsOf(id, day); got != want {
			t.Fatal(w, id, day, got, want)
		}
		if x.e != api.OK && x != (whereabouts{e: x.e}) || m.e != api.OK && m.mark != 0 || e1 != api.OK && len(due) > 0 || e2 != api.OK && len(l) > 0 || e3 != api.OK && len(letters) > 0 {
			t.Fatal(w, id, day, x, m, due, l, letters)
		}
		for _, e := range got[:] {
			seen[e]++
		}
	}
	for _, e := range []api.Errno{api.OK, api.ErrArg, api.ErrNone, api.ErrReport, api.ErrTerms, api.ErrDispute, api.ErrAnswer, api.ErrAsked} {
		if seen[e] < 100 {
			t.Error("too few", e, seen)
		}
	}
}
