package sum_test

import (
	"slices"
	"testing"

	"goodname/api"
)

// withoutAt is a world without one of its subjects.
func (w world) withoutAt(i int) world {
	w.l = slices.Delete(slices.Clone(w.l), i, i+1)
	return w
}

// P10.6: what is printed changes by no more than the bound whoever is taken out, or
// comes in; and not always by less.
func TestPrintedChangesByNoMoreThanTheBound(t *testing.T) {
	r := newRandom(3)
	var whole, part int
	for range 3000 {
		w := r.either()
		before := w.sum()
		for i := range w.l {
			after := w.withoutAt(i).sum()
			changed := max(before.printed-after.printed, after.printed-before.printed)
			if before.e != api.OK || after.e != api.OK || before.bound != after.bound || changed > before.bound {
				t.Fatal(w, i, before, after)
			}
			switch changed {
			case 0:
			case before.bound:
				whole++
			default:
				part++
			}
		}
	}
	if min(whole, part) < 300 {
		t.Error("too few change", whole, part)
	}
}

// P10.6: it is at most half a Step away from the sum.
func TestPrintedIsNearTheSum(t *testing.T) {
	r := newRandom(4)
	seen := map[bool]int{}
	for range 3000 {
		w := r.either()
		got, n := w.sum(), sumAgain(w)
		away := max(n-got.printed, got.printed-n)
		if got.e != api.OK || 2*away > w.q.Step || got.printed%w.q.Step != 0 {
			t.Fatal(w, got, n)
		}
		seen[away == 0]++
	}
	if min(seen[false], seen[true]) < 200 {
		t.Error("too few", seen)
	}
}

// sums are those of the questions of an audit, which are printed in Steps of 1.
func (w world) sums(t *testing.T) []int {
	t.Helper()
	var out []int
	for _, q := range w.audit {
		q.Step = 1
		got := w.asked(q).sum()
		if got.e != api.OK {
			t.Fatal(w, q, got)
		}
		out = append(out, got.printed)
	}
	return out
}

// counting is a world of sets in which everybody counts some times as much more as
// told, in the order of the Ids.
func (w world) counting(more []int, times int) world {
	w.l = w.inOrder()
	for i, s := range w.l {
		w.l[i].Values = slices.Clone(s.Values)
		w.l[i].Values[spread] += times * more[i]
	}
	return w
}

// P10.7: if the value of somebody does not follow, everybody could count more or
// less by what Hide returns, and all sums would be the same.
func TestSumsTellNothingOfOne(t *testing.T) {
	r := newRandom(5)
	hidden := 0
	for range 3000 {
		w := r.web(r.Intn(9))
		before, got := w.sums(t), w.hide()
		if got.e != api.OK {
			continue
		}
		times := 90 / max(slices.Max(got.more), -slices.Min(got.more))
		for _, times := range []int{1, -1, times, -times} {
			other := w.counting(got.more, times)
			if times == 0 || other.l[w.at(w.id)].Values[spread] == w.inOrder()[w.at(w.id)].Values[spread] {
				t.Fatal(w, got, times)
			}
			if after := other.sums(t); !slices.Equal(after, before) {
				t.Fatal(w, got, times, before, after)
			}
		}
		hidden++
	}
	if hidden < 1000 {
		t.Error("too few are hidden", hidden)
	}
}

// P10.7: whoever's value follows can be reckoned by How from the sums, whatever all
// count.
func TestValuesAreReckoned(t *testing.T) {
	r := newRandom(6)
	reckoned := 0
	for range 3000 {
		w := r.web(r.Intn(9))
		got := w.how()
		if got.e != api.OK {
			continue
		}
		for range 3 {
			var more []int
			for range w.l {
				more = append(more, r.Intn(100))
			}
			other := w.counting(more, 1)
			counts := other.l[w.at(w.id)].Values[spread]
			if n := together(got.parts, other.sums(t)); n != got.whole*counts {
				t.Fatal(w, got, other, n)
			}
		}
		reckoned++
	}
	if reckoned < 500 {
		t.Error("too few are reckoned", reckoned)
	}
}

// P10.7: for everybody there is either how the value follows or how it is hidden.
func TestEachValueFollowsOrIsHidden(t *testing.T) {
	r := newRandom(7)
	for range 1000 {
		w := r.either()
		ids := w.deduced()
		for _, s := range w.l {
			got := w.about(s.Id).fine(t)
			if follows := slices.Contains(ids.ids, s.Id); follows != (got.how.e == api.OK) {
				t.Fatal(w, s, ids, got)
			}
		}
	}
}

// P10.8: with a question more no fewer values follow.
func TestOneQuestionMore(t *testing.T) {
	r := newRandom(8)
	more := 0
	for range 3000 {
		w := r.web(1 + r.Intn(8))
		at := r.Intn(len(w.audit))
		fewer := w.audited(slices.Delete(slices.Clone(w.audit), at, at+1)...)
		before, after := fewer.deduced(), w.deduced()
		if before.e != api.OK || after.e != api.OK || !slices.Equal(union(before.ids, after.ids), after.ids) {
			t.Fatal(w, at, before, after)
		}
		if len(before.ids) < len(after.ids) {
			more++
		}
	}
	if more < 500 {
		t.Error("too few follow", more)
	}
}

// P10.8: questions in any order lead to the same ones.
func TestQuestionsInAnyOrder(t *testing.T) {
	r := newRandom(9)
	some := 0
	for range 2000 {
		w := r.either()
		want := w.deduced()
		other := w.with(func(w *world) { w.audit = slices.Clone(w.audit) })
		r.Shuffle(len(w.audit), func(i, k int) { other.audit[i], other.audit[k] = other.audit[k], other.audit[i] })
		if got := other.deduced(); !same(got, want) || got.e != api.OK {
			t.Fatal(w, other, got, want)
		}
		if len(want.ids) > 0 && len(want.ids) < len(w.l) {
			some++
		}
	}
	if some < 300 {
		t.Error("too few follow", some)
	}
}

// P10.8: of a question that asks for everybody, and one for everybody but one, the
// value of this one follows, whatever else is asked.
func TestEverybodyButOne(t *testing.T) {
	r := newRandom(10)
	for range 1000 {
		counts := r.counts(1 + r.Intn(16))
		w := sets(counts).aboutAny(r)
		all := idsOf(w.l)
		others := slices.DeleteFunc(slices.Clone(all), func(id int) bool { return id == w.id })
		l := [][]int{all, others}
		want := []int{1, -1}
		if len(others) == 0 {
			want = []int{1, 0}
		}
		if got := sets(counts, l...).about(w.id).how(); !same(got, how{parts: want, whole: 1}) {
			t.Fatal(counts, w.id, got)
		}
		for range r.Intn(7) {
			l = append(l, all[:r.Intn(len(all)+1)])
		}
		if got := sets(counts, l...).deduced(); got.e != api.OK || !slices.Contains(got.ids, w.id) {
			t.Fatal(counts, l, w.id, got)
		}
	}
}

// P10.9: the order of subjects changes nothing, neither of what is printed nor of
// what follows.
func TestSubjectsInAnyOrder(t *testing.T) {
	r := newRandom(11)
	for range 1500 {
		w := r.either()
		want := w.fine(t)
		other := w.with(func(w *world) { w.l = slices.Clone(w.l) })
		for range 2 {
			r.Shuffle(len(w.l), func(i, k int) { other.l[i], other.l[k] = other.l[k], other.l[i] })
			if got := other.ask(); !got.is(want) {
				t.Fatal(w, other, got, want)
			}
		}
	}
}

// strangers are subjects for whom the question of a world does not ask, with any
// values: so many, or fewer.
func (r random) strangers(w world, n int) []api.Subject {
	ids := idsOf(w.l)
	return slices.DeleteFunc(r.subjects(w.columns, n), func(s api.Subject) bool {
		return isAsked(w.q, s) || slices.Contains(ids, s.Id)
	})
}

// P10.9: what is printed does not depend on anybody who is not asked for: neither on
// whether they are there nor on what they are.
func TestWhoIsNotAskedForDoesNotMatter(t *testing.T) {
	r := newRandom(12)
	others := 0
	for range 3000 {
		w := r.field()
		want, ids := w.sum(), w.meets()
		asked := w.with(func(w *world) {
			w.l = slices.DeleteFunc(slices.Clone(w.l), func(s api.Subject) bool { return !isAsked(w.q, s) })
		})
		mixed := asked.with(func(w *world) {
			l := r.strangers(*w, api.MaxSubjects-len(w.l))
			w.l = slices.Concat(l[:len(l)/2], w.l, l[len(l)/2:])
		})
		for _, x := range []world{asked, mixed} {
			if got, met := x.sum(), x.meets(); got != want || got.e != api.OK || !same(met, ids) {
				t.Fatal(w, x, got, want)
			}
		}
		if len(mixed.l) > len(asked.l) && len(asked.l) < len(w.l) {
			others++
		}
	}
	if others < 1000 {
		t.Error("too few others", others)
	}
}
