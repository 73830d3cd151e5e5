package account_test

import (
	"slices"
	"testing"

	"goodname/account"
	"goodname/api"
)

// without returns a list without some reports.
func without(l []api.Report, gone func(r api.Report) bool) []api.Report {
	return slices.DeleteFunc(slices.Clone(l), gone)
}

// P3.5: in every order, and however often reports came, all answers are the same.
func TestAnyOrder(t *testing.T) {
	r := newRandom(5)
	for range 150 {
		l := r.reports()
		day := r.Intn(storyDays)
		want := ask(t, l, day)
		for range 3 {
			more := slices.Clone(l)
			for range r.Intn(8) {
				more = append(more, pick(r, l...))
			}
			if got := ask(t, mixedUp(r, more), day); !same(got, want) {
				t.Fatal(l, more, day, got, want)
			}
		}
		once := slices.Clone([]api.Report(known(l, api.MaxDay)))
		if got := ask(t, once, day); !same(got, want) {
			t.Fatal(l, day, got, want)
		}
	}
}

// P3.5: what was not known on a day tells nothing of it.
func TestWhatIsNotKnownTellsNothing(t *testing.T) {
	r := newRandom(6)
	changed := 0
	for range 60 {
		l := r.reports()
		for day := range storyDays {
			before := without(l, func(r api.Report) bool { return r.Made > day })
			want := ask(t, before, day)
			if got := ask(t, l, day); !same(got, want) {
				t.Fatal(l, day, got, want)
			}
			if !same(ask(t, before, storyDays), ask(t, l, storyDays)) {
				changed++
			}
		}
	}
	if changed < 100 {
		t.Error("too few later reports change anything", changed)
	}
}

// things are those of a state, by the kinds of their facts.
func things(s api.State) map[uint8]api.Told {
	return map[uint8]api.Told{api.RepOpened: s.Opened, api.RepLimit: s.Limit, api.RepOwed: s.Owed, api.RepLate: s.Late, api.RepDefault: s.Default, api.RepClosed: s.Closed}
}

// value is what a fact tells.
type value struct{ about, cents int }

// byValue returns the Ids of facts that stand by what they tell.
func byValue(l tale, ids []int) map[value][]int {
	out := map[value][]int{}
	for _, r := range l {
		if slices.Contains(ids, r.Id) {
			v := value{r.About, r.Cents}
			out[v] = append(out[v], r.Id)
		}
	}
	return out
}

// withdrawnAll adds withdrawals of reports to a list, each once.
func withdrawnAll(l []api.Report, ids []int) []api.Report {
	out := slices.Clone(l)
	for i, id := range ids {
		r := l[slices.IndexFunc(l, func(r api.Report) bool { return r.Id == id })]
		out = append(out, withdraw(storyIds+i, id, made(0), by(r.Source), on(r.Account)))
	}
	return out
}

// P3.6: what is open is told by facts that differ; when all but those of one
// value are withdrawn, it is told for sure.
func TestContradictionsAreKept(t *testing.T) {
	r := newRandom(7)
	found := map[uint8]int{}
	for range 600 {
		l := r.reports()
		day := r.Intn(storyDays)
		a := ask(t, l, storyDays)
		for kind, x := range things(a.states[1][day]) {
			values := byValue(a.standing, x.By)
			if x.Known == api.KnownYes && len(values) != 1 || x.Known == api.KnownNo && len(values) != 0 {
				t.Fatal(l, day, kind, x)
			}
			if x.Known != api.KnownOpen {
				continue
			}
			if len(values) < 2 {
				t.Fatal("open, and nothing differs", l, day, kind, x)
			}
			found[kind]++
			for v, ids := range values {
				slices.Sort(ids)
				keptUntilWithdrawn(t, l, kind, day, x.By, yes(v.cents, v.about, ids...))
			}
		}
	}
	for kind := uint8(api.RepOpened); kind <= api.RepClosed; kind++ {
		if kind != api.RepPaid && found[kind] < 10 {
			t.Error("too few are open", kind, found)
		}
	}
}

// keptUntilWithdrawn withdraws what tells an open thing, one after the other, but
// for those that tell what is wanted.
func keptUntilWithdrawn(t *testing.T, l []api.Report, kind uint8, day int, by []int, want api.Told) {
	t.Helper()
	others := except(by, want.By)
	for i := range len(others) + 1 {
		s, e := account.State(withdrawnAll(l, others[:i]), 1, day, storyDays)
		x := things(s)[kind]
		kept := x.Known == api.KnownOpen && slices.Equal(x.By, except(by, others[:i]))
		if i == len(others) {
			kept = same(x, want)
		}
		if e != api.OK || !kept {
			t.Fatal(l, day, kind, by, want, i, x, e)
		}
	}
}

// except returns the Ids of a list that are not in another one.
func except(l, others []int) []int {
	return slices.DeleteFunc(slices.Clone(l), func(id int) bool { return slices.Contains(others, id) })
}

// P3.6: facts that differ are in a clash with all their sources, as long as they
// stand.
func TestClashesNameAllSources(t *testing.T) {
	var l []api.Report
	var ids []int
	for id := range 30 {
		l, ids = append(l, owed(id, 8, id/10, by(90-id))), append(ids, id)
	}
	for n := range 21 {
		gone := slices.Clone(l)
		for id := range n {
			gone = append(gone, withdraw(40+id, id, by(90-id)))
		}
		want := []api.Clash{clash(api.RepOwed, 8, ids[n:]...)}
		if n >= 20 {
			want = nil
		}
		inAnyOrder(gone, func(l []api.Report) {
			c, e := account.Clashes(l, 5, 20)
			s, f := account.State(l, 5, 20, 20)
			if e != api.OK || f != api.OK || !same(c, want) || !slices.Equal(s.Owed.By, ids[n:]) || (s.Owed.Known == api.KnownOpen) != (n < 20) {
				t.Error(n, c, s, e, f)
			}
		})
	}
}

// P3.7: what is withdrawn is as if it and its withdrawals had never come.
func TestWhatIsWithdrawnTellsNothing(t *testing.T) {
	r := newRandom(8)
	found := 0
	for range 200 {
		l := r.reports()
		a := ask(t, l, storyDays)
		for id, f := range a.fates {
			if f.fate != api.FateWithdrawn || f.e != api.OK {
				continue
			}
			found++
			never := without(l, func(r api.Report) bool { return r.Id == id || r.Kind == api.RepWithdraw && r.Of == id })
			if got := ask(t, never, storyDays); !same(got.toldless(), a.toldless()) {
				t.Fatal(l, id, got, a)
			}
		}
	}
	if found < 100 {
		t.Error("too few are withdrawn", found)
	}
}

// P3.7: a fact that was corrected is as if it had come as it is now.
func TestWhatIsCorrectedIsAsItIsNow(t *testing.T) {
	r := newRandom(9)
	found := 0
	for range 200 {
		l := r.reports()
		a := ask(t, l, storyDays)
		for _, now := range a.standing {
			if a.fates[now.Id].fate != api.FateCorrected {
				continue
			}
			found++
			came := slices.Clone(l)
			for i := range came {
				if came[i].Id == now.Id {
					came[i] = now
				}
			}
			never := without(came, func(r api.Report) bool { return r.Kind == api.RepCorrect && r.Of == now.Id })
			for _, other := range [][]api.Report{came, never} {
				if got := ask(t, other, storyDays); !same(got.toldless(), a.toldless()) {
					t.Fatal(l, now, got, a)
				}
			}
		}
	}
	if found < 100 {
		t.Error("too few are corrected", found)
	}
}

// P3.7: a report that strays changes nothing, neither what became of others.
func TestWhatStraysChangesNothing(t *testing.T) {
	r := newRandom(10)
	found := 0
	for range 150 {
		l := r.reports()
		a := ask(t, l, storyDays)
		for id, f := range a.fates {
			if f.fate != api.FateStray {
				continue
			}
			found++
			got := ask(t, without(l, func(r api.Report) bool { return r.Id == id }), storyDays)
			got.fates[id] = f
			if !same(got, a) {
				t.Fatal(l, id, got, a)
			}
		}
	}
	if found < 150 {
		t.Error("too few stray", found)
	}
}

// P3.7: nothing of other accounts changes anything.
func TestOtherAccountsChangeNothing(t *testing.T) {
	r := newRandom(11)
	for range 200 {
		l := r.reports()
		a := ask(t, l, storyDays)
		for n := range storyAccounts {
			got := ask(t, without(l, func(r api.Report) bool { return r.Account != n }), storyDays)
			if !same(got.states[n], a.states[n]) || !same(got.clashes[n], a.clashes[n]) {
				t.Fatal(l, n, got, a)
			}
		}
	}
}

// paidOf returns what was paid, by everything that is known.
func paidOf(t *testing.T, l []api.Report) api.Span {
	t.Helper()
	s, e := account.State(l, 5, api.MaxDay, api.MaxDay)
	if e != api.OK {
		t.Fatal(l, e)
	}
	return s.Paid
}

// P3.8: what another source tells again is not paid twice; with a payment more,
// or a source more, Hi is no less, and no less than what one source tells of.
func TestPaymentsAreNotLost(t *testing.T) {
	r := newRandom(12)
	for range 500 {
		var l []api.Report
		for id := range r.Intn(12) {
			l = append(l, paid(id, r.Intn(4), r.Intn(5), by(70+r.Intn(3))))
		}
		was := paidOf(t, l)
		sum := map[int]int{}
		for i, x := range l {
			sum[x.Source] += x.Cents
			fewer := paidOf(t, slices.Concat(l[:i], l[i+1:]))
			if was.Hi < fewer.Hi {
				t.Fatal("with a payment more", l, i, was, fewer)
			}
			if was.Hi > fewer.Hi+x.Cents {
				t.Fatal("counted more than once", l, i, was, fewer)
			}
		}
		for source, n := range sum {
			others := paidOf(t, without(l, func(r api.Report) bool { return r.Source == source }))
			if was.Hi < others.Hi || was.Hi < n || was.Lo > was.Hi {
				t.Fatal("with a source more", l, source, was, others)
			}
			again := slices.Clone(l)
			for _, x := range l {
				if x.Source == source {
					again = append(again, paid(100+x.Id, x.About, x.Cents, by(99)))
				}
			}
			if got := paidOf(t, again); got != was {
				t.Fatal("told again by another source", l, source, was, got)
			}
		}
	}
}
