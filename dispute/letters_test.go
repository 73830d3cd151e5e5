package dispute_test

import (
	"slices"
	"testing"

	"goodname/api"
)

func letter(dispute, who, asked int) api.Letter {
	return api.Letter{Dispute: dispute, Who: who, Asked: asked}
}

// P5.5: who was told lately, before the day of the decision, has a letter.
func TestLettersByDays(t *testing.T) {
	for i, x := range []struct {
		answers []api.Answer
		lately  int
		from    int // the days on which one has to ask for a letter
		to      int
	}{
		{[]api.Answer{drops(1, 51, 16)}, 3, 13, 15},
		{[]api.Answer{drops(1, 51, 16)}, 1, 15, 15},
		{[]api.Answer{drops(1, 51, 16)}, 0, 1, 0},
		{[]api.Answer{fixes(1, 51, 14, 8, 99)}, 3, 11, 13},
		{[]api.Answer{fixes(1, 51, 14, 7, 100)}, 3, 11, 13},
		{nil, 4, 14, 17},
		{[]api.Answer{stands(1, 51, 13)}, 3, 1, 0},
		// What is fixed as it was is so still.
		{[]api.Answer{fixes(1, 51, 13, 8, 100)}, 3, 1, 0},
		// Before the day 10 the fact was not known.
		{[]api.Answer{drops(1, 51, 13)}, 5, 10, 12},
		{[]api.Answer{drops(1, 51, 13)}, api.MaxDay, 10, 12},
	} {
		w := one(x.answers...)
		w.d.Terms.Lately = x.lately
		decided := w.where(51, 0).decided
		for day := range 30 {
			var want []api.Letter
			if x.from <= day && day <= x.to {
				want = []api.Letter{letter(51, 900, 4)}
			}
			w := w.told(asks(4, 900, day))
			if got, e := w.letters(decided); e != api.OK || !slices.Equal(got, want) {
				t.Error(i, day, got, e, want)
			}
			if got, e := w.letters(api.MaxDay); e != api.OK || !slices.Equal(got, want) {
				t.Error(i, day, got, e, want)
			}
			if got, e := w.letters(decided - 1); e != api.OK || len(got) > 0 {
				t.Error(i, day, got, e)
			}
		}
	}
}

// P5.5: a fact is told from its About on, as it stood on the day on which one
// asked.
func TestLettersByAbout(t *testing.T) {
	w := quarrel([]api.Report{owed(1, 13, 100, made(2)), correct(2, 1, 5, 100, made(11))}, []api.Dispute{contest(51, 1, 12)}, drops(1, 51, 15))
	w.d.Terms.Lately = 20
	for day, want := range map[int]bool{4: false, 5: false, 10: false, 11: true, 12: true, 14: true, 15: false} {
		if got, e := w.told(asks(4, 900, day)).letters(30); e != api.OK || (len(got) == 1) != want {
			t.Error(day, got, e)
		}
	}
	w.d.Reports = []api.Report{owed(1, 5, 100, made(2)), correct(2, 1, 13, 100, made(11))}
	for day, want := range map[int]bool{4: false, 5: true, 10: true, 11: false, 12: false, 13: true, 14: true, 15: false} {
		if got, e := w.told(asks(4, 900, day)).letters(30); e != api.OK || (len(got) == 1) != want {
			t.Error(day, got, e)
		}
	}
}

// P5.5: only those who asked for the account of the fact were told it.
func TestLettersByAccount(t *testing.T) {
	w := quarrel([]api.Report{owed(1, 8, 100), owed(2, 8, 100, on(6))}, []api.Dispute{contest(51, 1, 12), contest(52, 2, 12)})
	w = w.told(asks(1, 900, 14), api.Asked{Id: 2, Who: 901, Account: 6, Day: 14}, api.Asked{Id: 3, Who: 902, Account: 7, Day: 14}, api.Asked{Id: 4, Who: 900, Account: 6, Day: 15})
	want := []api.Letter{letter(51, 900, 1), letter(52, 900, 4), letter(52, 901, 2)}
	if got, e := w.letters(18); e != api.OK || !slices.Equal(got, want) {
		t.Error(got, e)
	}
}

// P5.5: what counts is how the fact stands on the day of the decision, whoever
// changed it before.
func TestLettersByWhatStands(t *testing.T) {
	asked := many(10, func(i int) api.Asked { return asks(i, 900+i, 9+i) })
	for i, x := range []struct {
		more    []api.Report
		others  []api.Dispute
		answers []api.Answer
		want    []int // on which days one asked who has a letter of 51
	}{
		// The source tells from the day 13 on what the answer says on 15.
		{[]api.Report{correct(2, 1, 8, 90, made(13))}, nil, []api.Answer{fixes(1, 51, 15, 8, 90)}, []int{10, 11, 12}},
		// The source told something else for some days.
		{[]api.Report{correct(2, 1, 8, 90, made(12)), withdraw(3, 2, made(14))}, nil, []api.Answer{fixes(1, 51, 15, 8, 100)}, []int{12, 13}},
		// On the same day the correction with the greater Id works: it says what was told.
		{[]api.Report{correct(60, 1, 8, 100, made(15))}, nil, []api.Answer{fixes(1, 51, 15, 8, 90)}, nil},
		{[]api.Report{correct(40, 1, 8, 100, made(15))}, nil, []api.Answer{fixes(1, 51, 15, 8, 90)}, []int{10, 11, 12, 13, 14}},
		// The fact stood no longer since 12.
		{[]api.Report{withdraw(2, 1, made(12))}, nil, nil, []int{10, 11}},
		// Another dispute dropped the fact before, so that nothing was told.
		{nil, []api.Dispute{contest(52, 1, 11)}, []api.Answer{drops(1, 52, 13)}, []int{10, 11, 12}},
		// Another dispute fixed it before, so that 90 was told.
		{nil, []api.Dispute{contest(52, 1, 11)}, []api.Answer{fixes(1, 52, 13, 8, 90), fixes(2, 51, 15, 8, 90)}, []int{10, 11, 12}},
		{nil, []api.Dispute{contest(52, 1, 11)}, []api.Answer{fixes(1, 52, 13, 8, 90), fixes(2, 51, 15, 8, 100)}, []int{13, 14}},
		{nil, []api.Dispute{contest(52, 1, 11)}, []api.Answer{fixes(1, 52, 13, 8, 90), drops(2, 51, 15)}, []int{10, 11, 12, 13, 14}},
	} {
		w := quarrel(append([]api.Report{owed(1, 8, 100)}, x.more...), append(x.others, contest(51, 1, 12)), x.answers...).told(asked...)
		w.d.Terms.Lately = 20
		var want, of51 []api.Letter
		for _, day := range x.want {
			want = append(want, letter(51, 900+day-9, day-9))
		}
		got, e := w.letters(30)
		for _, l := range got {
			if l.Dispute == 51 {
				of51 = append(of51, l)
			}
		}
		if e != api.OK || !slices.Equal(of51, want) {
			t.Error(i, of51, e, want)
		}
	}
}

// P5.5: letters are by Dispute, whenever it was decided, and of the same one by
// Who; each one by the least Id by which he was told wrongly.
func TestLettersInOrder(t *testing.T) {
	w := quarrel([]api.Report{owed(1, 8, 100), owed(2, 8, 100)}, []api.Dispute{contest(53, 1, 11), contest(51, 2, 12), contest(52, 1, 10)},
		drops(1, 53, 13), fixes(2, 51, 17, 8, 1), fixes(3, 52, 12, 8, 2))
	w.d.Terms.Lately = 6
	w = w.told(asks(3, 902, 9), asks(5, 901, 12), asks(6, 902, 12), asks(7, 902, 11), asks(8, 900, 15), asks(20, 901, 10))
	first := []api.Letter{letter(52, 901, 20), letter(52, 902, 7)}
	then := []api.Letter{letter(53, 901, 5), letter(53, 902, 6)}
	last := []api.Letter{letter(51, 900, 8), letter(51, 901, 5), letter(51, 902, 6)}
	for day, want := range map[int][]api.Letter{
		11: nil, 12: first, 13: slices.Concat(first, then), 16: slices.Concat(first, then), 17: slices.Concat(last, first, then), api.MaxDay: slices.Concat(last, first, then),
	} {
		for range 5 {
			w.d.Disputes, w.d.Reports = mixedUp(newRandom(int64(day)), w.d.Disputes), mixedUp(newRandom(int64(day)), w.d.Reports)
			if got, e := w.letters(day); e != api.OK || !slices.Equal(got, want) {
				t.Error(day, got, e, want)
			}
		}
	}
}

// P5.5: nobody has a letter who did not ask, or if nothing was decided.
func TestNoLetters(t *testing.T) {
	for i, w := range []world{{}, one(), one().told([]api.Asked{}...), one(stands(1, 51, 13)).told(asks(1, 900, 12)), (world{}).told(asks(1, 900, 12)), quarrel([]api.Report{owed(1, 8, 100)}, nil).told(asks(1, 900, 12))} {
		for _, day := range []int{0, 13, 18, api.MaxDay} {
			if got, e := w.letters(day); e != api.OK || len(got) > 0 {
				t.Error(i, day, got, e)
			}
		}
	}
}

// P5.5: ErrAsked unless the list is valid, wherever the one is that is not, also
// if there are no disputes.
func TestBadAsked(t *testing.T) {
	try := func(l []api.Asked) {
		t.Helper()
		for _, w := range []world{{}, one(), exampleWorld(), crowd(api.MaxReports + 20)} {
			if got, e := w.told(l...).letters(18); e != api.ErrAsked || len(got) > 0 {
				t.Error(l, got, e)
			}
		}
	}
	bad := func(change func(a *api.Asked, n int), l ...int) {
		for _, n := range l {
			x := asks(20, 900, 12)
			change(&x, n)
			for _, good := range [][]api.Asked{nil, {asks(10, 900, 12), asks(30, 900, 12)}} {
				places(good, x, try)
			}
		}
	}
	bad(func(a *api.Asked, n int) { a.Id = n }, odd(0, api.MaxId)...)
	bad(func(a *api.Asked, n int) { a.Who = n }, odd(0, api.MaxId)...)
	bad(func(a *api.Asked, n int) { a.Account = n }, odd(0, api.MaxId)...)
	bad(func(a *api.Asked, n int) { a.Day = n }, odd(0, api.MaxDay)...)
	some := func(n int) []api.Asked { return many(n, func(i int) api.Asked { return asks(i, 900, 12) }) }
	try(some(api.MaxAsked + 1))
	try(some(1000))
	for i := range 4 {
		try(slices.Insert(some(4), i, asks(i, 901, 13)))
		if i > 0 {
			try(append(some(4)[i:], some(4)[:i]...))
		}
	}
}

// P5.5: lists of those who were asked at the limits of what is valid.
func TestGoodAsked(t *testing.T) {
	for i, l := range [][]api.Asked{
		nil,
		{{}},
		{{Id: api.MaxId, Who: api.MaxId, Account: api.MaxId, Day: api.MaxDay}},
		{asks(0, 900, 40), asks(1, 900, 3), asks(api.MaxId, 0, 7)},
		many(api.MaxAsked, func(i int) api.Asked { return asks(7*i, 900-i, 40-i) }),
	} {
		if _, e := one(drops(1, 51, 13)).told(l...).letters(api.MaxDay); e != api.OK {
			t.Error(i, e)
		}
	}
}
