package dispute_test

import (
	"math"
	"slices"
	"testing"

	"goodname/api"
	"goodname/dispute"
)

// errorOf calls all functions, which must agree on an error of a desk, whatever
// else is wrong, and tell nothing beside an error.
func errorOf(t *testing.T, d api.Desk) api.Errno {
	t.Helper()
	e := dispute.Check(d)
	w := world{d, []api.Asked{{Id: -1}}}
	for _, n := range append(odd(0, api.MaxDay), 0, 7) {
		x, m := w.where(n, n), w.mark(n, n)
		due, e1 := w.due(n)
		l, e2 := w.follow(n)
		letters, e3 := w.letters(n)
		all := []api.Errno{x.e, m.e, e1, e2, e3}
		if e != api.OK && slices.ContainsFunc(all, func(other api.Errno) bool { return other != e }) {
			t.Error("errors differ", d, n, e, all)
		}
		if x.e != api.OK && x != (whereabouts{e: x.e}) || m.e != api.OK && m.mark != 0 || e1 != api.OK && len(due) > 0 || e2 != api.OK && len(l) > 0 || e3 != api.OK && len(letters) > 0 {
			t.Error("something is beside an error", d, n, x, m, due, l, letters)
		}
		if e == api.OK && n == 7 && (x.e != api.OK && x.e != api.ErrNone || m.e != api.OK && m.e != api.ErrNone || e1 != api.OK || e2 != api.OK && e2 != api.ErrFull || e3 != api.ErrAsked) {
			t.Error("an error without one", d, all)
		}
	}
	return e
}

// many returns so many things made of numbers.
func many[T any](n int, one func(i int) T) []T {
	var out []T
	for i := range n {
		out = append(out, one(i))
	}
	return out
}

// disputesOf returns so many disputes of the fact 1.
func disputesOf(n int) []api.Dispute {
	return many(n, func(i int) api.Dispute { return contest(100+i, 1, 12) })
}

// answersTo returns so many answers to the dispute 51.
func answersTo(n int) []api.Answer {
	return many(n, func(i int) api.Answer { return stands(i, 51, 12) })
}

// P5.1: desks at the limits of what is valid.
func TestCheckOfWhatIsValid(t *testing.T) {
	top := owed(api.MaxId, api.MaxDay, api.MaxMoney, made(0))
	for i, d := range []api.Desk{
		{},
		{Reports: []api.Report{}, Disputes: []api.Dispute{}, Answers: []api.Answer{}},
		{Terms: api.Terms{Answer: api.MaxTerm, Mark: api.MaxDay, Lately: api.MaxDay}},
		one(answersTo(api.MaxAnswers)...).d,
		quarrel([]api.Report{owed(1, 8, 100)}, disputesOf(api.MaxDisputes)).d,
		quarrel(many(api.MaxReports, func(i int) api.Report { return owed(i, 8, 100) }), nil).d,
		quarrel(many(api.MaxReports, func(int) api.Report { return owed(1, 8, 100) }), disputesOf(1)).d,
		// Disputes and answers have Ids of their own, in any order.
		quarrel([]api.Report{owed(1, 8, 100)}, []api.Dispute{contest(3, 1, 12), contest(0, 1, 10), contest(api.MaxId, 1, 11)}, stands(3, 3, 0), stands(api.MaxId, 0, api.MaxDay), drops(0, 3, 12), drops(1, api.MaxId, 99)).d,
		quarrel([]api.Report{top}, []api.Dispute{contest(1, api.MaxId, 0), contest(2, api.MaxId, api.MaxDay-6)}).d,
	} {
		if e := errorOf(t, d); e != api.OK {
			t.Error(i, e)
		}
	}
}

// P5.1: ErrTerms unless the terms are valid.
func TestCheckOfTerms(t *testing.T) {
	bad := func(change func(x *api.Terms, n int), l ...int) {
		for _, n := range l {
			w := one(stands(1, 51, 13))
			change(&w.d.Terms, n)
			if e := errorOf(t, w.d); e != api.ErrTerms {
				t.Error(w.d.Terms, e)
			}
		}
	}
	bad(func(x *api.Terms, n int) { x.Answer = n }, odd(0, api.MaxTerm)...)
	bad(func(x *api.Terms, n int) { x.Mark = n }, odd(0, api.MaxDay)...)
	bad(func(x *api.Terms, n int) { x.Lately = n }, odd(0, api.MaxDay)...)
}

// P5.1: account.Check's errors of the reports.
func TestCheckOfReports(t *testing.T) {
	for i, x := range []struct {
		l []api.Report
		e api.Errno
	}{
		{make([]api.Report, api.MaxReports+1), api.ErrMany},
		{[]api.Report{{}}, api.ErrReport},
		{[]api.Report{owed(1, 8, 100), owed(1, 8, 101), opened(2, -1)}, api.ErrReport},
		{[]api.Report{owed(1, 8, 100), owed(1, 8, 101)}, api.ErrDiffer},
	} {
		if e := errorOf(t, quarrel(x.l, []api.Dispute{contest(51, 1, 12)}).d); e != x.e {
			t.Error(i, e)
		}
	}
}

// places calls a test with a list of things that are valid, and a thing put into
// each place of it.
func places[T any](good []T, x T, try func(l []T)) {
	for at := range len(good) + 1 {
		try(slices.Insert(slices.Clone(good), at, x))
	}
}

// P5.1: ErrDispute unless all disputes are valid, wherever the one is that is not.
func TestCheckOfDisputes(t *testing.T) {
	reports := []api.Report{owed(1, 8, 100), opened(2, 3, made(4)), owed(2000, 8, 9, made(11)), correct(4, 1, 9, 90), withdraw(5, 2), opened(2, 3, made(4))}
	bad := func(change func(x *api.Dispute, n int), l ...int) {
		for _, n := range l {
			x := contest(60, 1, 12)
			change(&x, n)
			for _, good := range [][]api.Dispute{nil, {contest(50, 1, 10), contest(70, 2, 4)}} {
				places(good, x, func(l []api.Dispute) {
					if e := errorOf(t, quarrel(reports, l).d); e != api.ErrDispute {
						t.Error(l, e)
					}
				})
			}
		}
	}
	bad(func(x *api.Dispute, n int) { x.Id = n }, append(odd(0, api.MaxId), 1, 2, 2000, 4, 5)...)
	bad(func(x *api.Dispute, n int) { x.Report = n }, append(odd(0, api.MaxId), 0, 3, 4, 5, 60)...)
	bad(func(x *api.Dispute, n int) { x.Day = n }, append(odd(10, api.MaxDay-6), 9, 0, api.MaxDay)...)
	bad(func(x *api.Dispute, n int) { x.Report, x.Day = 2000, n }, 10, 0)
	bad(func(x *api.Dispute, n int) { x.Report, x.Day = 2, n }, 3)
	for i, l := range [][]api.Dispute{
		disputesOf(api.MaxDisputes + 1),
		disputesOf(1000),
		{contest(50, 1, 12), contest(50, 1, 12)},
		{contest(50, 1, 12), contest(51, 1, 12), contest(50, 2, 13)},
	} {
		if e := errorOf(t, quarrel(reports, l).d); e != api.ErrDispute {
			t.Error(i, e)
		}
	}
}

// P5.1: a dispute leaves room for the day after its term.
func TestCheckOfLastDays(t *testing.T) {
	for _, term := range []int{0, 1, 30, api.MaxTerm} {
		for day, want := range map[int]api.Errno{
			api.MaxDay - term - 2: api.OK, api.MaxDay - term - 1: api.OK, api.MaxDay - term: api.ErrDispute, api.MaxDay: api.ErrDispute, math.MaxInt: api.ErrDispute, math.MaxInt - term: api.ErrDispute,
		} {
			w := quarrel([]api.Report{owed(1, 8, 100)}, []api.Dispute{contest(51, 1, day)})
			w.d.Terms.Answer = term
			if e := errorOf(t, w.d); e != want {
				t.Error(term, day, e)
			}
			if want == api.OK && w.where(51, api.MaxDay) != (whereabouts{api.DisputeSilent, day + term + 1, api.OK}) {
				t.Error(term, day, w.where(51, api.MaxDay))
			}
		}
	}
}

// P5.1: ErrAnswer unless all answers are valid.
func TestCheckOfAnswers(t *testing.T) {
	bad := func(x api.Answer, change func(x *api.Answer, n int), l ...int) {
		for _, n := range l {
			x := x
			change(&x, n)
			for _, good := range [][]api.Answer{nil, {stands(5, 51, 12), fixes(7, 51, 12, 3, 4)}} {
				places(good, x, func(l []api.Answer) {
					if e := errorOf(t, one(l...).d); e != api.ErrAnswer {
						t.Error(l, e)
					}
				})
			}
		}
	}
	for _, x := range []api.Answer{stands(6, 51, 12), fixes(6, 51, 12, 3, 4), drops(6, 51, 12)} {
		bad(x, func(x *api.Answer, n int) { x.Id = n }, odd(0, api.MaxId)...)
		bad(x, func(x *api.Answer, n int) { x.Dispute = n }, append(odd(0, api.MaxId), 0, 1, 50, 52)...)
		bad(x, func(x *api.Answer, n int) { x.Day = n }, odd(0, api.MaxDay)...)
		bad(x, func(x *api.Answer, n int) { x.Says = uint8(n) }, 0, 4, 5, 128, 255)
		if x.Says != api.AnswerFixes {
			bad(x, func(x *api.Answer, n int) { x.About = n }, append(odd(0, 0), 12)...)
			bad(x, func(x *api.Answer, n int) { x.Cents = n }, append(odd(0, 0), 100)...)
			continue
		}
		bad(x, func(x *api.Answer, n int) { x.About = n }, odd(0, api.MaxDay)...)
		bad(x, func(x *api.Answer, n int) { x.Cents = n }, odd(0, api.MaxMoney)...)
	}
	for i, l := range [][]api.Answer{
		answersTo(api.MaxAnswers + 1),
		answersTo(1000),
		{stands(5, 51, 12), stands(5, 51, 12)},
		{stands(5, 51, 12), drops(6, 51, 13), drops(5, 51, 14)},
	} {
		if e := errorOf(t, one(l...).d); e != api.ErrAnswer {
			t.Error(i, e)
		}
	}
}

// P5.1: an answer that fixes has Cents that are valid for the kind of its fact.
func TestCheckOfCents(t *testing.T) {
	most := [...]int{api.RepOpened: 0, api.RepLimit: api.MaxMoney, api.RepOwed: api.MaxMoney, api.RepPaid: api.MaxMoney, api.RepLate: api.MaxLate, api.RepDefault: api.MaxMoney, api.RepClosed: 0}
	for kind := uint8(api.RepOpened); kind <= api.RepClosed; kind++ {
		for _, x := range []struct {
			about, cents int
			e            api.Errno
		}{
			{0, 0, api.OK}, {api.MaxDay, most[kind], api.OK}, {0, most[kind], api.OK}, {0, -1, api.ErrAnswer}, {0, most[kind] + 1, api.ErrAnswer}, {0, math.MaxInt, api.ErrAnswer}, {-1, 0, api.ErrAnswer}, {api.MaxDay + 1, 0, api.ErrAnswer},
		} {
			// Another fact, of another kind, has another dispute.
			l := []api.Report{fact(7*(kind%2)+1-kind%2, 2, 3, 0), fact(kind, 1, 8, 0)}
			d := quarrel(l, []api.Dispute{contest(52, 2, 12), contest(51, 1, 12)}, fixes(1, 51, 13, x.about, x.cents)).d
			if e := errorOf(t, d); e != x.e {
				t.Error(kind, x, e)
			}
		}
	}
}

// P5.1: ErrTerms comes before the errors of reports, these before ErrDispute, and
// this before ErrAnswer; all of them come before ErrArg, ErrNone and ErrAsked
// (errorOf asks for days, Ids and lists that are not valid, too).
func TestOrderOfErrors(t *testing.T) {
	terms, badTerms := api.Terms{Answer: 5}, api.Terms{Answer: -1}
	good, bad := []api.Report{owed(1, 8, 100)}, []api.Report{owed(1, 8, 100), {}}
	dispute, badDispute := []api.Dispute{contest(51, 1, 12)}, []api.Dispute{contest(51, 2, 12)}
	badAnswer := []api.Answer{{}}
	for i, x := range []struct {
		d api.Desk
		e api.Errno
	}{
		{api.Desk{Terms: badTerms, Reports: bad, Disputes: badDispute, Answers: badAnswer}, api.ErrTerms},
		{api.Desk{Terms: badTerms, Reports: good, Disputes: dispute}, api.ErrTerms},
		{api.Desk{Terms: badTerms, Reports: good, Disputes: badDispute}, api.ErrTerms},
		{api.Desk{Terms: badTerms, Reports: good, Disputes: dispute, Answers: badAnswer}, api.ErrTerms},
		{api.Desk{Terms: terms, Reports: bad, Disputes: badDispute, Answers: badAnswer}, api.ErrReport},
		{api.Desk{Terms: terms, Reports: bad, Disputes: dispute, Answers: badAnswer}, api.ErrReport},
		{api.Desk{Terms: terms, Reports: make([]api.Report, 61), Disputes: badDispute, Answers: badAnswer}, api.ErrMany},
		{api.Desk{Terms: terms, Reports: append(good, owed(1, 8, 1)), Disputes: badDispute, Answers: badAnswer}, api.ErrDiffer},
		{api.Desk{Terms: terms, Reports: good, Disputes: badDispute, Answers: badAnswer}, api.ErrDispute},
		{api.Desk{Terms: terms, Reports: good, Disputes: disputesOf(21), Answers: badAnswer}, api.ErrDispute},
		{api.Desk{Terms: terms, Reports: good, Disputes: dispute, Answers: badAnswer}, api.ErrAnswer},
		{api.Desk{Terms: terms, Reports: good, Answers: []api.Answer{stands(1, 51, 12)}}, api.ErrAnswer},
	} {
		if e := errorOf(t, x.d); e != x.e {
			t.Error(i, e)
		}
	}
}

// P5.1 to P5.5: ErrArg unless the day is in its range, before ErrNone, ErrAsked
// and ErrFull.
func TestDaysAsArguments(t *testing.T) {
	for _, w := range []world{{}, one(), crowd(api.MaxReports + 20), exampleWorld()} {
		for _, asked := range [][]api.Asked{nil, {{Id: -1}}} {
			w.asked = asked
			for _, n := range odd(0, api.MaxDay) {
				for _, id := range []int{1, 51, 777, -1} {
					if x, m := w.where(id, n), w.mark(id, n); x != (whereabouts{e: api.ErrArg}) || m != (marking{e: api.ErrArg}) {
						t.Error(n, id, x, m)
					}
				}
				due, e1 := w.due(n)
				l, e2 := w.follow(n)
				letters, e3 := w.letters(n)
				if e1 != api.ErrArg || e2 != api.ErrArg || e3 != api.ErrArg || len(due)+len(l)+len(letters) > 0 {
					t.Error(n, e1, e2, e3)
				}
			}
		}
	}
}
