package dispute_test

import (
	"maps"
	"slices"
	"testing"

	"goodname/account"
	"goodname/api"
)

// decision tells again, day by day of its term, when a dispute is decided, and by
// which answer: by none, if nobody answers.
func (w world) decision(x api.Dispute) (int, *api.Answer) {
	for day := x.Day; day <= x.Day+w.d.Terms.Answer; day++ {
		var first *api.Answer
		for i, a := range w.d.Answers {
			if a.Dispute == x.Id && a.Day == day && (first == nil || a.Id < first.Id) {
				first = &w.d.Answers[i]
			}
		}
		if first != nil {
			return day, first
		}
	}
	return x.Day + w.d.Terms.Answer + 1, nil
}

// whereIs tells again where a dispute is on a day.
func (w world) whereIs(x api.Dispute, day int) whereabouts {
	decided, a := w.decision(x)
	out := whereabouts{api.DisputeSilent, decided, api.OK}
	switch {
	case day < x.Day:
		out.where = api.DisputeNone
	case day < decided:
		out.where = api.DisputeOpen
	case a != nil:
		out.where = api.DisputeStands + a.Says - api.AnswerStands
	}
	return out
}

// factOf returns the fact of a dispute, as it came.
func (w world) factOf(x api.Dispute) api.Report {
	return w.d.Reports[slices.IndexFunc(w.d.Reports, func(r api.Report) bool { return r.Id == x.Report })]
}

// sorted returns disputes by a number, and of the same number by Id.
func sorted(l []api.Dispute, number func(x api.Dispute) int) []api.Dispute {
	weight := func(x api.Dispute) int { return number(x)*(api.MaxId+1) + x.Id }
	return slices.SortedFunc(slices.Values(l), func(a, b api.Dispute) int { return weight(a) - weight(b) })
}

// decidedOf returns the day on which a dispute is decided.
func (w world) decidedOf(x api.Dispute) int {
	day, _ := w.decision(x)
	return day
}

// followed tells again what follows until a day.
func (w world) followed(day int) []api.Report {
	l := asIs(w.d.Reports)
	for _, x := range sorted(w.d.Disputes, w.decidedOf) {
		f := w.factOf(x)
		decided, a := w.decision(x)
		switch {
		case decided > day || a != nil && a.Says == api.AnswerStands:
		case a != nil && a.Says == api.AnswerFixes:
			l = append(l, correct(x.Id, f.Id, a.About, a.Cents, by(f.Source), on(f.Account), made(decided)))
		default:
			l = append(l, withdraw(x.Id, f.Id, by(f.Source), on(f.Account), made(decided)))
		}
	}
	return l
}

// markOf tells a mark again, day by day.
func (w world) markOf(fact, day int) marking {
	if !slices.ContainsFunc(w.d.Reports, func(r api.Report) bool { return r.Id == fact && r.Kind < api.RepCorrect }) {
		return marking{e: api.ErrNone}
	}
	var out marking
	for _, x := range w.d.Disputes {
		at := w.whereIs(x, day)
		if x.Report != fact || at.where == api.DisputeNone || at.where > api.DisputeStands {
			continue
		}
		if at.where == api.DisputeOpen {
			return marking{mark: api.DisputeOpen}
		}
		for since := 0; since <= w.d.Terms.Mark; since++ {
			if at.decided+since == day {
				out.mark = api.DisputeStands
			}
		}
	}
	return out
}

// pair is an About and Cents of a fact, or that it does not stand.
type pair struct {
	about, cents int
	stands       bool
}

// stood tells how a fact stood on a day, by what became of it.
func stood(t *testing.T, l []api.Report, f api.Report, day int) pair {
	t.Helper()
	fate, by, e := account.Fate(l, f.Id, day)
	switch {
	case e == api.ErrNone || e == api.OK && fate == api.FateWithdrawn:
		return pair{}
	case e == api.OK && fate == api.FateStands:
		return pair{f.About, f.Cents, true}
	case e == api.OK && fate == api.FateCorrected:
		c := l[slices.IndexFunc(l, func(r api.Report) bool { return r.Id == by })]
		return pair{c.About, c.Cents, true}
	}
	t.Fatal(l, f, day, fate, by, e)
	return pair{}
}

// wrongly tells again whether one was told the fact of a dispute wrongly.
func (w world) wrongly(t *testing.T, l []api.Report, x api.Dispute, a api.Asked) bool {
	t.Helper()
	f, decided := w.factOf(x), w.decidedOf(x)
	if a.Account != f.Account || a.Day >= decided || decided > a.Day+w.d.Terms.Lately {
		return false
	}
	was, is := stood(t, l, f, a.Day), stood(t, l, f, decided)
	return was.stands && was.about <= a.Day && was != is
}

// lettersOf tells the letters again.
func (w world) lettersOf(t *testing.T, day int) []api.Letter {
	t.Helper()
	l := w.followed(day)
	var out []api.Letter
	for _, x := range sorted(w.d.Disputes, func(api.Dispute) int { return 0 }) {
		if at := w.whereIs(x, day); at.where < api.DisputeFixed {
			continue
		}
		entry := map[int]int{}
		for _, a := range slices.Backward(w.asked) {
			if w.wrongly(t, l, x, a) {
				entry[a.Who] = a.Id
			}
		}
		for _, who := range slices.Sorted(maps.Keys(entry)) {
			out = append(out, letter(x.Id, who, entry[who]))
		}
	}
	return out
}

// retold returns all answers to a story on a day, told again by the definitions,
// as they are written.
func (w world) retold(t *testing.T, day int) answers {
	t.Helper()
	var out answers
	for id := range out.wheres {
		out.wheres[id].e, out.marks[id] = api.ErrNone, w.markOf(id, day)
	}
	for _, x := range sorted(w.d.Disputes, func(x api.Dispute) int { return x.Day + w.d.Terms.Answer }) {
		out.wheres[x.Id] = w.whereIs(x, day)
		if out.wheres[x.Id].where == api.DisputeOpen {
			out.due = append(out.due, x.Id)
		}
	}
	out.follow, out.letters = w.followed(day), w.lettersOf(t, day)
	return out
}

// P5.1 to P5.5: all answers are those of the definitions.
func TestAllAnswers(t *testing.T) {
	r := newRandom(1)
	var wheres, marks [api.DisputeSilent + 1]int
	letters, due := 0, 0
	for range 90 {
		w := r.world()
		for day := range storyDays {
			got, want := w.ask(t, day), w.retold(t, day)
			if !same(got, want) {
				t.Fatal(w, day, got, want)
			}
			for id := range storyIds {
				wheres[got.wheres[id].where]++
				marks[got.marks[id].mark]++
			}
			letters += len(got.letters)
			if len(got.due) > 2 {
				due++
			}
		}
	}
	if slices.Min(wheres[:]) < 500 || min(marks[api.DisputeOpen], marks[api.DisputeStands], letters, due) < 100 {
		t.Error("too few of something", wheres, marks, letters, due)
	}
}
