package dispute_test

import (
	"slices"
	"testing"

	"goodname/account"
	"goodname/api"
	"goodname/dispute"
)

// without returns a list without some of its elements.
func without[T any](l []T, gone func(x T) bool) []T {
	return slices.DeleteFunc(slices.Clone(l), gone)
}

// P5.6: every dispute is decided at most a day after its term, and on no day
// before it comes; it is open until then, and afterwards what it was decided to be.
func TestDecidedWithinTerm(t *testing.T) {
	r := newRandom(6)
	for range 150 {
		w := r.world()
		for _, x := range w.d.Disputes {
			end := w.where(x.Id, api.MaxDay)
			if end.e != api.OK || end.where < api.DisputeStands || end.decided < x.Day || end.decided > x.Day+w.d.Terms.Answer+1 {
				t.Fatal(w, x, end)
			}
			if (end.where == api.DisputeSilent) != (end.decided == x.Day+w.d.Terms.Answer+1) {
				t.Fatal("silence decides when the term is over, and nothing else then", w, x, end)
			}
			for day := range storyDays {
				want := end
				if day < x.Day {
					want.where = api.DisputeNone
				} else if day < end.decided {
					want.where = api.DisputeOpen
				}
				due, e := w.due(day)
				if got := w.where(x.Id, day); got != want || e != api.OK || slices.Contains(due, x.Id) != (want.where == api.DisputeOpen) {
					t.Fatal(w, x, day, got, want, due)
				}
			}
		}
	}
}

// P5.6: an answer that comes later, or after another one, changes nothing.
func TestLaterAnswers(t *testing.T) {
	r := newRandom(7)
	var late, second int
	for range 40 {
		w := r.world()
		more := asIs(w.d.Answers)
		for i := range 5 {
			if len(w.d.Disputes) == 0 {
				break
			}
			a := r.answer(w.d, 100+i)
			x := w.d.Disputes[slices.IndexFunc(w.d.Disputes, func(x api.Dispute) bool { return x.Id == a.Dispute })]
			if at := w.where(x.Id, 0); at.decided <= x.Day+w.d.Terms.Answer {
				a.Day = at.decided + r.Intn(3)
				second++
			} else {
				a.Day = at.decided + r.Intn(3)
				late++
			}
			more = append(more, a)
		}
		w2 := w.with(func(w *world) { w.d.Answers = mixedUp(r, more) })
		for day := range storyDays {
			if got, want := w2.ask(t, day), w.ask(t, day); !same(got, want) {
				t.Fatal(w, w2, day, got, want)
			}
		}
	}
	if min(late, second) < 50 {
		t.Error("too few answers come later", late, second)
	}
}

// P5.6: if the source answers nothing, all is decided by silence.
func TestNoAnswers(t *testing.T) {
	r := newRandom(8)
	for range 100 {
		w := r.world()
		w.d.Answers = nil
		for _, x := range w.d.Disputes {
			if got := w.where(x.Id, storyDays); got != (whereabouts{api.DisputeSilent, x.Day + w.d.Terms.Answer + 1, api.OK}) {
				t.Fatal(w, x, got)
			}
		}
	}
}

// tellsOf is what the account layer tells of a fact on a day, as it is known then:
// whether it is shown, and with which About and Cents.
func tellsOf(t *testing.T, l []api.Report, id, day, known int) pair {
	t.Helper()
	f, ok := standing(t, l, known)[id]
	if !ok || f.About > day {
		return pair{}
	}
	return pair{f.About, f.Cents, true}
}

// P5.7: who was told a fact lately that is not so any more by a decision has a
// letter, nobody has two of one dispute, and nobody has one who was told what is
// still so.
func TestEachIsToldRight(t *testing.T) {
	r := newRandom(9)
	var right, still int
	for range 250 {
		w := r.world()
		letters, e := w.letters(storyDays)
		l, e2 := w.follow(storyDays)
		if e != api.OK || e2 != api.OK {
			t.Fatal(w, e, e2)
		}
		wrong := map[[2]int]int{} // the first entry, by the dispute and Who
		for _, x := range w.d.Disputes {
			at := w.where(x.Id, storyDays)
			for _, a := range slices.Backward(w.asked) {
				lately := a.Account == w.factOf(x).Account && a.Day < at.decided && at.decided-a.Day <= w.d.Terms.Lately
				told := tellsOf(t, l, x.Report, a.Day, a.Day)
				switch {
				case at.where == api.DisputeStands || !told.stands || !lately:
				case told == tellsOf(t, l, x.Report, api.MaxDay, at.decided):
					still++
				default:
					wrong[[2]int{x.Id, a.Who}] = a.Id
				}
			}
		}
		right += len(wrong)
		for _, x := range letters {
			to := [2]int{x.Dispute, x.Who}
			if id, ok := wrong[to]; !ok || id != x.Asked {
				t.Fatal("a letter without reason, or the second one", w, x, letters)
			}
			delete(wrong, to)
		}
		if len(wrong) > 0 {
			t.Fatal("not told right", w, wrong)
		}
	}
	if right < 500 || still < 50 {
		t.Error("too few were told wrong, or what is so", right, still)
	}
}

// P5.7: a letter that is due stays due, and each one comes on the day of its
// decision.
func TestLettersByDay(t *testing.T) {
	r := newRandom(10)
	for range 100 {
		w := r.world()
		all, e := w.letters(api.MaxDay)
		if e != api.OK {
			t.Fatal(w, e)
		}
		for day := range storyDays {
			want := without(all, func(l api.Letter) bool { return w.where(l.Dispute, 0).decided > day })
			if got, e := w.letters(day); e != api.OK || !slices.Equal(got, want) {
				t.Fatal(w, day, got, want)
			}
		}
	}
}

// P5.8: what follows of disputes is the same for every order of reports, disputes
// and answers, and however often reports came.
func TestAnyOrder(t *testing.T) {
	r := newRandom(11)
	for range 40 {
		w := r.world()
		other := w
		for range r.Intn(4) {
			other.d.Reports = append(asIs(other.d.Reports), pick(r, w.d.Reports...))
		}
		other.d.Reports, other.d.Disputes, other.d.Answers = mixedUp(r, other.d.Reports), mixedUp(r, w.d.Disputes), mixedUp(r, w.d.Answers)
		for day := range storyDays {
			a, b := w.ask(t, day), other.ask(t, day)
			if !slices.Equal(a.follow[:len(w.d.Reports)], w.d.Reports) || !slices.Equal(b.follow[:len(other.d.Reports)], other.d.Reports) {
				t.Fatal("reports are not in their order", w, day, a, b)
			}
			a.follow, b.follow = a.follow[len(w.d.Reports):], b.follow[len(other.d.Reports):]
			if !same(a, b) {
				t.Fatal(w, other, day, a, b)
			}
		}
	}
}

// states are those of all accounts of a story, on all days, by what is known on
// one.
func states(t *testing.T, l []api.Report, known int) []api.State {
	t.Helper()
	var out []api.State
	for id := range storyAccounts {
		for day := 0; day < storyDays; day += 3 {
			s, e := account.State(l, id, day, known)
			if e != api.OK {
				t.Fatal(l, known, e)
			}
			out = append(out, s)
		}
	}
	return out
}

// P5.8: a state, as it was known before a dispute was decided, is not changed by
// it.
func TestStatesBeforeDecisions(t *testing.T) {
	r := newRandom(12)
	changed := 0
	for range 25 {
		w := r.world()
		for _, x := range w.d.Disputes {
			never := w
			never.d.Disputes = without(w.d.Disputes, func(y api.Dispute) bool { return y.Id == x.Id })
			never.d.Answers = without(w.d.Answers, func(a api.Answer) bool { return a.Dispute == x.Id })
			decided := w.where(x.Id, 0).decided
			with, e1 := w.follow(api.MaxDay)
			none, e2 := never.follow(api.MaxDay)
			if e1 != api.OK || e2 != api.OK {
				t.Fatal(w, e1, e2)
			}
			for known := max(0, decided-3); known < decided; known++ {
				if !same(states(t, with, known), states(t, none, known)) {
					t.Fatal(w, x, known)
				}
			}
			if !same(states(t, with, decided), states(t, none, decided)) {
				changed++
			}
		}
	}
	if changed < 30 {
		t.Error("too few decisions change a state", changed)
	}
}

// correctedAfter tells whether a correction of a fact comes after what follows of
// a dispute, or the one that follows is withdrawn by its source.
func correctedAfter(l []api.Report, x api.Dispute, decided, known int) bool {
	return slices.ContainsFunc(l, func(r api.Report) bool {
		after := r.Made > decided || r.Made == decided && r.Id > x.Id
		return r.Made <= known && (r.Kind == api.RepCorrect && r.Of == x.Report && after || r.Kind == api.RepWithdraw && r.Of == x.Id)
	})
}

// P5.9: a fact that was dropped, or about which the source was silent, stands no
// longer from the day of the decision on; one that was fixed stands as the answer
// says, as long as nobody corrects it after that, and it is not withdrawn.
func TestWhatBecomesOfFacts(t *testing.T) {
	r := newRandom(13)
	var dropped, fixed int
	for range 100 {
		w := r.world()
		l, e := w.follow(api.MaxDay)
		if e != api.OK {
			t.Fatal(w, e)
		}
		for _, x := range w.d.Disputes {
			at := w.where(x.Id, api.MaxDay)
			for known := at.decided; known < storyDays+5; known++ {
				f, ok := standing(t, l, known)[x.Report]
				if at.where == api.DisputeDropped || at.where == api.DisputeSilent {
					dropped++
					if ok {
						t.Fatal("stands", w, x, known, f)
					}
				}
				if at.where != api.DisputeFixed || !ok || correctedAfter(l, x, at.decided, known) {
					continue
				}
				fixed++
				_, a := w.decision(x)
				if f.About != a.About || f.Cents != a.Cents {
					t.Fatal("is not as it was fixed", w, x, known, f, a)
				}
			}
		}
	}
	if min(dropped, fixed) < 300 {
		t.Error("too few are dropped, or fixed", dropped, fixed)
	}
}

// P5.9: one that was fixed stands, unless it is withdrawn.
func TestFixedStands(t *testing.T) {
	w := one(fixes(1, 51, 13, 4, 90))
	l, _ := w.follow(api.MaxDay)
	for known, want := range map[int]api.Report{12: owed(1, 8, 100), 13: owed(1, 4, 90), api.MaxDay: owed(1, 4, 90)} {
		if got := standing(t, l, known)[1]; got != want {
			t.Error(known, got)
		}
	}
}

// P5.9: a fact of which all disputes stand is as it was.
func TestWhatStands(t *testing.T) {
	r := newRandom(14)
	stand := 0
	for range 150 {
		w := r.world()
		l, e := w.follow(api.MaxDay)
		if e != api.OK {
			t.Fatal(w, e)
		}
		against := map[int]bool{}
		disputed := map[int]bool{}
		for _, x := range w.d.Disputes {
			disputed[x.Report] = true
			if w.where(x.Id, api.MaxDay).where != api.DisputeStands {
				against[x.Report] = true
			}
		}
		for known := range storyDays {
			with, never := standing(t, l, known), standing(t, w.d.Reports, known)
			for id := range firstDispute {
				if against[id] {
					continue
				}
				if with[id] != never[id] {
					t.Fatal(w, known, with[id], never[id])
				}
				if disputed[id] {
					stand++
				}
			}
		}
	}
	if stand < 300 {
		t.Error("too few stand", stand)
	}
}

// P5.10: while a dispute is open its fact is marked, and no fact is that nobody
// disputes.
func TestMarks(t *testing.T) {
	r := newRandom(15)
	var open, none int
	for range 200 {
		w := r.world()
		for day := range storyDays {
			isOpen, disputed := map[int]bool{}, map[int]bool{}
			for _, x := range w.d.Disputes {
				disputed[x.Report] = true
				if w.where(x.Id, day).where == api.DisputeOpen {
					isOpen[x.Report] = true
				}
			}
			for _, f := range w.d.Reports {
				if f.Kind >= api.RepCorrect {
					continue
				}
				m := w.mark(f.Id, day)
				if m.e != api.OK || isOpen[f.Id] != (m.mark == api.DisputeOpen) || !disputed[f.Id] && m.mark != api.DisputeNone {
					t.Fatal(w, day, f, m)
				}
				if isOpen[f.Id] {
					open++
				}
				if !disputed[f.Id] {
					none++
				}
			}
		}
	}
	if min(open, none) < 1000 {
		t.Error("too few are open, or not disputed", open, none)
	}
}

// What follows of disputes is again a list of reports that is valid, of facts that
// can be disputed again.
func TestWhatFollowsIsValid(t *testing.T) {
	r := newRandom(16)
	for range 100 {
		w := r.world()
		l, e := w.follow(r.Intn(storyDays))
		next := w.d
		next.Reports, next.Disputes, next.Answers = l, nil, nil
		if e != api.OK || dispute.Check(next) != api.OK || account.Check(l) != api.OK {
			t.Fatal(w, l, e)
		}
	}
}
