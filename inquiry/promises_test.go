package inquiry_test

import (
	"slices"
	"testing"

	"goodname/api"
	"goodname/inquiry"
)

// becomes tells what becomes of an inquiry, which is valid.
func (w world) becomes(t *testing.T, q api.Inquiry) uint8 {
	t.Helper()
	w.q = q
	got := w.became()
	if got.e != api.OK {
		t.Fatal(w, got)
	}
	return got.became
}

// of are the traces of an inquiry.
func of(l []api.Trace, id int) []api.Trace {
	var out []api.Trace
	for _, x := range l {
		if x.Inquiry == id {
			out = append(out, x)
		}
	}
	return out
}

// P9.5: what is told has a licence, or is the person's own.
func TestNoInquiryWithoutPurpose(t *testing.T) {
	r := newRandom(5)
	seen := map[uint8]int{}
	for range 8000 {
		w := r.world()
		became := w.becomes(t, w.q)
		if may := mayAsk(w.g, w.q); may == (became == api.AskPurpose) {
			t.Fatal(w, became, may)
		}
		seen[became]++
		none := w.with(func(w *world) { w.g.Licences = nil })
		if got := none.becomes(t, w.q); (got == api.AskTold) != (w.q.Purpose == api.PurposeSelf && w.q.Who == w.q.File) {
			t.Fatal(none, got)
		}
	}
	if min(seen[api.AskTold], seen[api.AskPurpose]) < 300 {
		t.Error("too few", seen)
	}
}

// P9.5: each inquiry of a file has just one trace, which is shown to the person from
// its day on until it is kept no more, whatever became of it; and no trace is of
// anything else.
func TestNoInquiryWithoutItsMark(t *testing.T) {
	r := newRandom(6)
	seen := map[uint8]int{}
	for range 2000 {
		w := r.world().shownFor(api.PurposeSelf)
		got := w.traces()
		kept := 0
		for _, q := range w.l {
			if q.File != w.file || q.Day > w.day || w.day > q.Day+730 {
				continue
			}
			kept++
			became := w.becomes(t, q)
			seen[became]++
			want := api.Trace{Inquiry: q.Id, Who: q.Who, Day: q.Day, Purpose: q.Purpose, Became: became}
			if x := of(got.l, q.Id); !slices.Equal(x, []api.Trace{want}) {
				t.Fatal(w, q, x)
			}
		}
		if got.e != api.OK || len(got.l) != kept {
			t.Fatal(w, got, kept)
		}
	}
	for n := range uint8(4) {
		if seen[n] < 100 {
			t.Error("too few", n, seen)
		}
	}
}

// P9.5: who asks once more has one trace more, and all others stay.
func TestOneTraceMore(t *testing.T) {
	r := newRandom(7)
	for range 3000 {
		w := r.world().shownFor(api.PurposeSelf)
		w.l = w.l[:min(len(w.l), api.MaxInquiries-1)]
		q := r.inquiry(pick(r, 500, api.MaxId))
		q.File, q.Day = w.file, max(w.day-pick(r, 0, 1, 365, 366, 729, 730), 0)
		more := w.with(func(w *world) { w.l = append(slices.Clone(w.l), q) })
		before, after := w.traces(), more.traces()
		own := of(after.l, q.Id)
		after.l = slices.DeleteFunc(after.l, func(x api.Trace) bool { return x.Inquiry == q.Id })
		if len(own) != 1 || !same(before, after) {
			t.Fatal(w, q, before, after, own)
		}
	}
}

// mergeOf merges two lists that fit.
func mergeOf(t *testing.T, a, b []api.Signal) []api.Signal {
	t.Helper()
	l, e := inquiry.Merge(a, b)
	if e != api.OK {
		t.Fatal(a, b, e)
	}
	return l
}

// bureau merges lists, all of them at least once, in any order, some of them with
// another one before, or in parts.
func (r random) bureau(t *testing.T, lists [][]api.Signal) []api.Signal {
	t.Helper()
	var own []api.Signal
	order := r.Perm(len(lists))
	for range r.Intn(4) {
		order = append(order, r.Intn(len(lists)))
	}
	for _, i := range order {
		l := lists[i]
		if r.Intn(3) == 0 {
			l = mergeOf(t, lists[r.Intn(len(lists))], l)
		}
		if r.Intn(2) == 0 {
			own = mergeOf(t, own, l)
		} else {
			own = mergeOf(t, l, own)
		}
	}
	return own
}

// P9.6: bureaus that have merged the same lists know the same, and answer alike.
func TestSignalsPassInAnyOrder(t *testing.T) {
	r := newRandom(8)
	for range 300 {
		w := r.world()
		all := r.signals(1 + r.Intn(40))
		var lists [][]api.Signal
		for range 1 + r.Intn(5) {
			lists = append(lists, r.part(all, r.Intn(len(all)+1)))
		}
		known := slices.DeleteFunc(all, func(s api.Signal) bool {
			return !slices.ContainsFunc(lists, func(l []api.Signal) bool { return slices.Contains(l, s) })
		})
		w.g.Signals, w.other = known, nil
		want := w.fine(t)
		for range 6 {
			w.g.Signals = r.bureau(t, lists)
			if got := w.ask(); !got.is(want) || !slices.Equal(w.g.Signals, known) {
				t.Fatal(w, lists, got, want, known)
			}
		}
	}
}

// P9.6: a list that was merged is known already.
func TestMergedTwice(t *testing.T) {
	r := newRandom(9)
	merges := 0
	for range 1000 {
		w := r.world()
		got := w.merge()
		if got.e != api.OK {
			continue
		}
		for _, l := range [][]api.Signal{w.g.Signals, w.other, got.l} {
			if x, y := mergeOf(t, got.l, l), mergeOf(t, l, got.l); !slices.Equal(x, got.l) || !slices.Equal(y, got.l) {
				t.Fatal(w, got, x, y)
			}
		}
		merges++
	}
	if merges < 300 {
		t.Error("too few merges", merges)
	}
}

// only is a list without the signals of which something is not so.
func only(l []api.Signal, is func(s api.Signal) bool) []api.Signal {
	return slices.DeleteFunc(slices.Clone(l), func(s api.Signal) bool { return !is(s) })
}

// P9.7: what is signalled after a day changes nothing of the day, nor of days
// before it.
func TestLaterSignalsChangeNothing(t *testing.T) {
	r := newRandom(10)
	later := 0
	for range 4000 {
		w := r.world()
		w.q.Day = min(w.q.Day, w.day)
		past := w.with(func(w *world) {
			w.g.Signals = only(w.g.Signals, func(s api.Signal) bool { return s.Day <= w.day })
			w.other = nil
		})
		got, want := w.fine(t), past.fine(t)
		got.merge, want.merge = merged{}, merged{}
		if !got.is(want) {
			t.Fatal(w, got, want)
		}
		if len(past.g.Signals) < len(w.g.Signals) {
			later++
		}
	}
	if later < 500 {
		t.Error("too few signals are later", later)
	}
}

// P9.7: neither signals about other files nor alerts change whether a file is
// frozen; nor do freezes change its alerts.
func TestSignalsAreApart(t *testing.T) {
	r := newRandom(11)
	var frozen, alerts int
	for range 4000 {
		w := r.world().on(r.Intn(25))
		got := w.state()
		for _, x := range []struct {
			kinds []uint8
			want  state
		}{
			{[]uint8{api.SignalFreeze, api.SignalThaw, api.SignalLift}, state{frozen: got.frozen}},
			{[]uint8{api.SignalAlert, api.SignalClear}, state{alert: got.alert}},
		} {
			own := w.with(func(w *world) {
				w.g.Signals = only(w.g.Signals, func(s api.Signal) bool { return s.File == w.file && slices.Contains(x.kinds, s.Kind) })
			})
			if s := own.state(); s != x.want {
				t.Fatal(w, x, got, s)
			}
		}
		if got.frozen {
			frozen++
		}
		if got.alert {
			alerts++
		}
	}
	if min(frozen, alerts) < 300 {
		t.Error("too few freezes or alerts", frozen, alerts)
	}
}

// P9.7: a file that is frozen on a day is frozen until a thaw or a lift of it, on a
// day after that.
func TestFreezeHolds(t *testing.T) {
	r := newRandom(12)
	held := 0
	for range 3000 {
		w := r.world().on(r.Intn(22))
		if !w.state().frozen {
			continue
		}
		next := api.MaxDay + 1
		for _, s := range w.g.Signals {
			if s.File == w.file && s.Day > w.day && (s.Kind == api.SignalThaw || s.Kind == api.SignalLift) {
				next = min(next, s.Day)
			}
		}
		for _, day := range []int{w.day + 1, w.day + 2, w.day + 7, 1000, api.MaxDay} {
			if day = min(day, next-1); !w.on(day).state().frozen {
				t.Fatal(w, day, next)
			}
		}
		if next > api.MaxDay {
			held++
		}
	}
	if held < 200 {
		t.Error("too few freezes are held for ever", held)
	}
}

// isPart tells whether traces are some of others, in the same order.
func isPart(inner, outer []api.Trace) bool {
	for _, x := range outer {
		if len(inner) > 0 && inner[0] == x {
			inner = inner[1:]
		}
	}
	return len(inner) == 0
}

// P9.8: who asks for a purpose sees of others no more than the person does, and only
// what was told for credit, whatever the purpose is.
func TestOthersSeeNoMore(t *testing.T) {
	r := newRandom(13)
	fewer := 0
	for range 3000 {
		w := r.world()
		own, first := w.shownFor(api.PurposeSelf).traces(), w.shownFor(api.PurposeCredit).traces()
		for _, p := range purposes() {
			got := w.shownFor(p).traces()
			if p == api.PurposeSelf {
				continue
			}
			bad := func(x api.Trace) bool { return x.Became != api.AskTold || x.Purpose != api.PurposeCredit }
			if !isPart(got.l, own.l) || slices.ContainsFunc(got.l, bad) || !same(got, first) {
				t.Fatal(w, p, got, own)
			}
		}
		if len(first.l) > 0 && len(first.l) < len(own.l) {
			fewer++
		}
	}
	if fewer < 300 {
		t.Error("too few are shown less", fewer)
	}
}

// P9.8: what is refused counts nowhere, nor does what is for another purpose, or of
// another file.
func TestRefusedCountNowhere(t *testing.T) {
	r := newRandom(14)
	refused := 0
	for range 3000 {
		w := r.world()
		others := w.with(func(w *world) {
			w.l = slices.DeleteFunc(slices.Clone(w.l), func(q api.Inquiry) bool {
				return q.File != w.file || q.Purpose != api.PurposeCredit || w.becomes(t, q) != api.AskTold
			})
		})
		if a, b := w.count(), others.count(); a != b || a.e != api.OK {
			t.Fatal(w, others, a, b)
		}
		a, b := w.shownFor(api.PurposeEmploy).traces(), others.shownFor(api.PurposeEmploy).traces()
		if !same(a, b) {
			t.Fatal(w, others, a, b)
		}
		if len(others.l) < len(w.l) {
			refused++
		}
	}
	if refused < 300 {
		t.Error("too few are refused", refused)
	}
}

// fewest is the least number of spans from days of a list on, each with all days
// until 14 days after it, that have all of its days. It tries all sets of them.
func fewest(days []int) int {
	best := len(days)
	for set := range 1 << len(days) {
		n := 0
		covered := make([]bool, len(days))
		for i, from := range days {
			if set>>i&1 == 0 {
				continue
			}
			n++
			for k, d := range days {
				covered[k] = covered[k] || from <= d && d-from <= 14
			}
		}
		if n < best && !slices.Contains(covered, false) {
			best = n
		}
	}
	return best
}

// asking is a world in which n ask for credit within so many days, and are told.
func (r random) asking(n, within int) world {
	w := visits().on(within)
	w.g.Signals = nil
	for id := range n {
		w.l = append(w.l, credit(2*id, r.Intn(within+1)))
	}
	return w
}

// P9.9: the number that counts is that of the fewest spans.
func TestFewestSpans(t *testing.T) {
	r := newRandom(15)
	seen := map[int]int{}
	for range 1500 {
		w := r.asking(r.Intn(10), 10+r.Intn(120))
		var days []int
		for _, q := range w.l {
			days = append(days, q.Day)
		}
		n := fewest(days)
		if got := w.count(); got != (counted{n, api.OK}) {
			t.Fatal(w, got, n)
		}
		seen[n]++
	}
	for n := range 6 {
		if seen[n] < 50 {
			t.Error("too few", n, seen)
		}
	}
}

// P9.9: with an inquiry more, the number that counts is no less, and at most one
// more.
func TestOneInquiryMore(t *testing.T) {
	r := newRandom(16)
	seen := map[int]int{}
	for range 4000 {
		w := r.asking(r.Intn(16), 10+r.Intn(300))
		if r.Intn(2) == 0 {
			w.l, w.g = r.inquiries(30), r.world().g
		}
		q := credit(1000, r.Intn(w.day+1))
		more := w.with(func(w *world) { w.l = append(slices.Clone(w.l), q) })
		a, b := w.count(), more.count()
		if a.e != api.OK || b.e != api.OK || b.n-a.n < 0 || b.n-a.n > 1 {
			t.Fatal(w, q, a, b)
		}
		seen[b.n-a.n]++
	}
	if min(seen[0], seen[1]) < 300 {
		t.Error("too few", seen)
	}
}
