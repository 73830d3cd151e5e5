package trial_test

import (
	"slices"
	"testing"

	"goodname/api"
	"goodname/score"
)

// fromDay are reports that are made from a day on, some of which correct or
// withdraw others, earlier ones too.
func (r random) fromDay(day int, before []api.Report) []api.Report {
	var l []api.Report
	for i := range 5 + r.Intn(15) {
		l = append(l, r.report(40+i, day))
	}
	return r.settle(l, before)
}

// until are the people who ask until a day.
func until(day int, l []api.Applicant) []api.Applicant {
	return slices.DeleteFunc(slices.Clone(l), func(a api.Applicant) bool { return a.Day > day })
}

// three are a world as it is, as it was on a day, and as it is with more reports
// that are made after that day.
func (r random) three(w world, day int) [3]world {
	return [3]world{
		w,
		w.with(func(w *world) {
			w.r = slices.DeleteFunc(slices.Clone(w.r), func(x api.Report) bool { return x.Made > day })
		}),
		w.with(func(w *world) { w.r = mixedUp(r, slices.Concat(w.r, r.fromDay(day+1, w.r))) }),
	}
}

// P7.6: reports that were made later change no value of those who asked before.
func TestLaterReportsChangeNoValue(t *testing.T) {
	r := newRandom(6)
	var before, after int
	for range 400 {
		w, day := r.world(), r.Intn(storyDays)
		all := r.three(w, day)
		want := all[0].values()
		for _, x := range all[1:] {
			got := x.values()
			if got.e != api.OK || len(got.values) != len(w.l) {
				t.Fatal(w, day, got)
			}
			for i, a := range w.l {
				changed := !slices.Equal(got.values[i], want.values[i])
				switch {
				case a.Day <= day && changed:
					t.Fatal(w, x.r, day, a, got.values[i], want.values[i])
				case a.Day <= day:
					before++
				case changed:
					after++
				}
			}
		}
	}
	if min(before, after) < 500 {
		t.Error("too few asked before, or too few values are others", before, after)
	}
}

// answersOf are to how many the answer is yes, and no.
func (a tallied) answersOf() [2]int {
	return [2]int{a.Yes[0] + a.Yes[1] + a.Yes[2], a.No[0] + a.No[1] + a.No[2]}
}

// P7.6: reports that were made later change no answer, no drift and no gap; and no
// tally until they are made.
func TestLaterReportsChangeNoAnswer(t *testing.T) {
	r := newRandom(7)
	several, retold := 0, 0
	for range 400 {
		w, day := r.world(), r.Intn(storyDays)
		w.l, w.later, w.now = until(day, w.l), until(day, w.later), storyDays+12
		all := r.three(w, day)
		early := w.with(func(w *world) { w.now = r.Intn(day + 1) })
		for _, x := range all[1:] {
			if x.both() != w.both() || x.drift() != w.drift() || x.gap() != w.gap() || x.run().answersOf() != w.run().answersOf() {
				t.Fatal(w, x.r, day)
			}
			if x.with(func(w *world) { w.now = early.now }).run() != early.run() {
				t.Fatal("a tally", early, x.r, day)
			}
			if x.run() != w.run() {
				retold++
			}
		}
		if len(w.l) > 2 {
			several++
		}
	}
	if several < 150 || retold < 50 {
		t.Error("too few asked, or became something else", several, retold)
	}
}

// P7.6: groups change no value, no answer, no drift, and nothing of what became of
// anybody.
func TestGroupsChangeNothing(t *testing.T) {
	r := newRandom(8)
	regroup := func(l []api.Applicant) []api.Applicant {
		out := slices.Clone(l)
		for i := range out {
			out[i].Group = r.Intn(api.MaxGroup + 1)
		}
		return out
	}
	gaps := 0
	for range 200 {
		w := r.world()
		other := w.with(func(w *world) { w.l, w.later = regroup(w.l), regroup(w.later) })
		a, b := w.fine(t), other.fine(t)
		if a.gap != b.gap {
			gaps++
		}
		if a.gap, b.gap = (gapped{}), (gapped{}); !a.is(b) {
			t.Fatal(w, other, a, b)
		}
	}
	if gaps < 50 {
		t.Error("too few gaps are others", gaps)
	}
}

// alone are worlds of one person each.
func (w world) alone() []world {
	var out []world
	for i := range w.l {
		out = append(out, w.with(func(w *world) { w.l = w.l[i : i+1] }))
	}
	return out
}

// answerOf is to which answer the values of a plan lead: 1 if it is yes.
func answerOf(t *testing.T, p api.Plan, values []int) int {
	t.Helper()
	_, yes, e := score.Score(p.Model, values)
	if e != api.OK {
		t.Fatal(p, values, e)
	}
	if yes {
		return 1
	}
	return 0
}

// P7.7: a tally has each applicant once, with the answer of its model to its
// values, and with what became of it alone.
func TestTallyHasEachOnce(t *testing.T) {
	r := newRandom(9)
	for range 300 {
		w := r.world()
		all, values := w.run(), w.values().values
		var sum api.Tally
		for i, x := range w.alone() {
			one := x.run()
			answer := answerOf(t, w.p, values[i])
			if one.e != api.OK || one.answersOf() != [2]int{answer, 1 - answer} {
				t.Fatal(x, one)
			}
			for k := range 3 {
				sum.Yes[k] += one.Yes[k]
				sum.No[k] += one.No[k]
			}
		}
		if n := all.answersOf(); all != (tallied{sum, api.OK}) || n[0]+n[1] != len(w.l) {
			t.Fatal(w, all, sum)
		}
	}
}

// P7.7: in any order of reports and people, and however often reports come, all is
// the same, and the values of each one are, too.
func TestAnyOrder(t *testing.T) {
	r := newRandom(10)
	for range 200 {
		w := r.world()
		places := r.Perm(len(w.l))
		other := w.with(func(w *world) {
			w.r = mixedUp(r, slices.Concat(w.r, w.r[:r.Intn(10)]))
			w.later = mixedUp(r, w.later)
			w.l = nil
		})
		for _, i := range places {
			other.l = append(other.l, w.l[i])
		}
		a, b := w.fine(t), other.fine(t)
		for k, i := range places {
			if !slices.Equal(a.values.values[i], b.values.values[k]) {
				t.Fatal(w, other, i, k)
			}
		}
		if a.values, b.values = (valued{}), (valued{}); !a.is(b) {
			t.Fatal(w, other, a, b)
		}
	}
}

// P7.7: what is not known yet is known when its day has come, and then it stays
// known; the answers stay what they are.
func TestKnownWhenItsDayHasCome(t *testing.T) {
	r := newRandom(11)
	for range 60 {
		w := r.world()
		want := w.run().answersOf()
		for now := range storyDays + 12 {
			w.now = now
			var waiting [2]int
			for i, a := range w.values().values {
				if w.l[i].Day+w.p.Wait > now {
					waiting[1-answerOf(t, w.p, a)]++
				}
			}
			got := w.run()
			if got.e != api.OK || got.answersOf() != want || [2]int{got.Yes[2], got.No[2]} != waiting {
				t.Fatal(w, got, want, waiting)
			}
		}
		if w.now < w.p.Wait+storyDays {
			t.Fatal("not the last day", w)
		}
		if got := w.run(); got.Yes[2]+got.No[2] > 0 {
			t.Fatal(w, got)
		}
	}
}

// P7.8: both answers of two plans are those of each one alone, for all together
// and for each person.
func TestBothAreEachAlone(t *testing.T) {
	r := newRandom(12)
	for range 300 {
		w := r.world()
		both := w.both()
		first := w.run().answersOf()
		second := w.with(func(w *world) { w.p = w.q }).run().answersOf()
		m := both.both
		if both.e != api.OK || [2]int{m[1][0] + m[1][1], m[0][0] + m[0][1]} != first || [2]int{m[0][1] + m[1][1], m[0][0] + m[1][0]} != second {
			t.Fatal(w, both, first, second)
		}
		swapped := w.with(func(w *world) { w.p, w.q = w.q, w.p }).both()
		if swapped != (beside{[2][2]int{{m[0][0], m[1][0]}, {m[0][1], m[1][1]}}, api.OK}) {
			t.Fatal(w, both, swapped)
		}
		values, others := w.values().values, w.with(func(w *world) { w.p = w.q }).values().values
		for i, x := range w.alone() {
			var want beside
			want.both[answerOf(t, w.p, values[i])][answerOf(t, w.q, others[i])] = 1
			if got := x.both(); got != want {
				t.Fatal(x, got, want)
			}
		}
	}
}

// P7.8: a plan beside itself never differs, nor does it if it waits longer.
func TestPlanBesideItself(t *testing.T) {
	r := newRandom(13)
	var all [2]int
	for range 400 {
		w := r.world()
		w.q = w.p
		w.q.Wait = pick(r, w.p.Wait, w.p.Wait+1, 0, api.MaxDay)
		got := w.both()
		yes := w.run().answersOf()
		if got != (beside{[2][2]int{{yes[1], 0}, {0, yes[0]}}, api.OK}) {
			t.Fatal(w, got)
		}
		all[0] += yes[0]
		all[1] += yes[1]
	}
	if min(all[0], all[1]) < 500 {
		t.Error("too few have some answers", all)
	}
}

// P7.9: drift is none between a list and itself, in any order and however often;
// it is the same there and back, and at most the whole.
func TestDriftThereAndBack(t *testing.T) {
	r := newRandom(14)
	some := 0
	for range 400 {
		w := r.world()
		there := w.drift()
		back := w.with(func(w *world) { w.l, w.later = w.later, w.l }).drift()
		if there.e != api.OK || there != back || there.drift < 0 || there.drift > api.Whole {
			t.Fatal(w, there, back)
		}
		if there.drift > 0 {
			some++
		}
		w.later = mixedUp(r, slices.Repeat(w.l, 1+r.Intn(2)))
		if got := w.drift(); got != (drifted{}) {
			t.Fatal(w, got)
		}
	}
	if some < 200 {
		t.Error("too few drift", some)
	}
}

// P7.9: a gap is none in one group; it is at most the whole, and both groups are
// some of the people's, the same one just if there is no gap.
func TestGapInOneGroup(t *testing.T) {
	r := newRandom(15)
	some := 0
	for range 400 {
		w := r.world()
		got := w.gap()
		isOne := func(group int) bool {
			return slices.ContainsFunc(w.l, func(a api.Applicant) bool { return a.Group == group })
		}
		if got.e != api.OK || got.gap < 0 || got.gap > api.Whole || !isOne(got.high) || !isOne(got.low) || (got.gap == 0) != (got.high == got.low) {
			t.Fatal(w, got)
		}
		if got.gap > 0 {
			some++
		}
		group := r.Intn(api.MaxGroup + 1)
		w.l = slices.Clone(w.l)
		for i := range w.l {
			w.l[i].Group = group
		}
		if got := w.gap(); got != (gapped{0, group, group, api.OK}) {
			t.Fatal(w, got)
		}
	}
	if some < 150 {
		t.Error("too few gaps", some)
	}
}
