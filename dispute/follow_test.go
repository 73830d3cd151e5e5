package dispute_test

import (
	"slices"
	"testing"

	"goodname/api"
)

// crowd is a world of which so many reports follow until the day 18, of which 20
// follow of disputes: ten on 13, and ten on 18.
func crowd(all int) world {
	w := quarrel(many(all-20, func(i int) api.Report { return owed(i, 8, 100) }), disputesOf(20))
	w.d.Answers = many(10, func(i int) api.Answer { return fixes(i, 100+i, 13, 8, i) })
	return w
}

// P5.3: what follows of a dispute, from the day on which it is decided on.
func TestFollowOfEach(t *testing.T) {
	like := []change{by(71), on(6), made(13)}
	for i, x := range []struct {
		kind    uint8
		answers []api.Answer
		day     int
		want    api.Report
	}{
		{api.RepOwed, []api.Answer{fixes(1, 51, 13, 4, 90)}, 13, correct(51, 1, 4, 90, like...)},
		{api.RepOpened, []api.Answer{fixes(1, 51, 13, 0, 0)}, 13, correct(51, 1, 0, 0, like...)},
		{api.RepLate, []api.Answer{fixes(1, 51, 13, api.MaxDay, api.MaxLate)}, 13, correct(51, 1, api.MaxDay, api.MaxLate, like...)},
		{api.RepDefault, []api.Answer{drops(1, 51, 13)}, 13, withdraw(51, 1, like...)},
		{api.RepClosed, nil, 18, withdraw(51, 1, by(71), on(6), made(18))},
		{api.RepPaid, []api.Answer{drops(2, 51, 13), fixes(1, 51, 13, 2, 3), stands(3, 51, 12+6)}, 13, correct(51, 1, 2, 3, like...)},
	} {
		l := []api.Report{fact(x.kind, 1, 8, 0, by(71), on(6))}
		w := quarrel(l, []api.Dispute{contest(51, 1, 12)}, x.answers...)
		if got, e := w.follow(x.day - 1); e != api.OK || !slices.Equal(got, l) {
			t.Error(i, got, e)
		}
		for _, day := range []int{x.day, x.day + 1, api.MaxDay} {
			if got, e := w.follow(day); e != api.OK || !slices.Equal(got, append(l, x.want)) {
				t.Error(i, day, got, e)
			}
		}
	}
}

// P5.3: of a dispute that stands nothing follows.
func TestFollowOfWhatStands(t *testing.T) {
	for _, day := range []int{0, 12, 13, 18, api.MaxDay} {
		w := one(stands(1, 51, 13), drops(2, 51, 14))
		if got, e := w.follow(day); e != api.OK || !slices.Equal(got, w.d.Reports) {
			t.Error(day, got, e)
		}
	}
}

// P5.3: the reports are in their order, as often as they are in the list, and what
// follows is by the days of the decisions, and of the same one by Id.
func TestFollowInOrder(t *testing.T) {
	l := []api.Report{owed(9, 8, 100), correct(3, 9, 8, 99), owed(4, 8, 9, made(2)), owed(9, 8, 100), withdraw(8, 777), owed(4, 8, 9, made(2))}
	w := quarrel(l, []api.Dispute{contest(57, 9, 10), contest(51, 4, 13), contest(55, 9, 11), contest(52, 4, 12), contest(50, 9, 10)},
		fixes(1, 52, 16, 8, 3), drops(2, 51, 13), stands(3, 50, 10))
	first, then := []api.Report{withdraw(51, 4, made(13))}, []api.Report{correct(52, 4, 8, 3, made(16)), withdraw(57, 9, made(16))}
	last := []api.Report{withdraw(55, 9, made(17))}
	for day, more := range map[int][]api.Report{
		10: nil, 12: nil, 13: first, 15: first, 16: slices.Concat(first, then), 17: slices.Concat(first, then, last), api.MaxDay: slices.Concat(first, then, last),
	} {
		if got, e := w.follow(day); e != api.OK || !slices.Equal(got, append(asIs(l), more...)) {
			t.Error(day, got, e)
		}
	}
}

// P5.3, P5.5: ErrFull if there are more than so many reports until the day.
func TestFull(t *testing.T) {
	for _, x := range []struct {
		all, day int
		e        api.Errno
	}{
		{api.MaxReports, 18, api.OK}, {api.MaxReports + 1, 18, api.ErrFull}, {api.MaxReports + 1, 17, api.OK}, {api.MaxReports + 10, 17, api.OK}, {api.MaxReports + 11, 17, api.ErrFull}, {api.MaxReports + 11, 13, api.ErrFull}, {api.MaxReports + 11, 12, api.OK}, {api.MaxReports + 20, 12, api.OK}, {api.MaxReports + 20, 13, api.ErrFull}, {api.MaxReports + 20, api.MaxDay, api.ErrFull},
	} {
		w := crowd(x.all)
		l, e1 := w.follow(x.day)
		_, e2 := w.letters(x.day)
		letters, e3 := w.told(asks(1, 900, 10), asks(2, 901, 11)).letters(x.day)
		if e1 != x.e || e2 != x.e || e3 != x.e {
			t.Error(x, e1, e2, e3)
		}
		if x.e != api.OK && len(l)+len(letters) > 0 {
			t.Error(x, l, letters)
		}
		if got := w.where(100, x.day); got.e != api.OK {
			t.Error(x, got)
		}
	}
}

// P5.3: a report that is twice in the list counts twice.
func TestFullOfTheSame(t *testing.T) {
	for all, want := range map[int]api.Errno{api.MaxReports - 1: api.OK, api.MaxReports: api.ErrFull} {
		w := quarrel(many(all, func(int) api.Report { return owed(1, 8, 100) }), []api.Dispute{contest(51, 1, 12)})
		if _, e := w.follow(18); e != want {
			t.Error(all, e)
		}
	}
}
