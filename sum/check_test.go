package sum_test

import (
	"slices"
	"testing"

	"goodname/api"
)

// full has as much of all as there may be: subjects with the Ids 20, 40 and so on,
// and questions with four Wheres.
func full() world {
	w := world{columns: api.MaxColumns, id: 40}
	for i := range api.MaxSubjects {
		w.l = append(w.l, subject(20*i+20, i, 2*i, 7, 100, 1000*i))
	}
	for i := range api.MaxAudit {
		w.audit = append(w.audit, of(4, 9000, 10, where(0, i, 9), where(1, 0, 30), where(2, 7, 7), where(3, 50, 150)))
	}
	w.q = w.audit[3]
	return w
}

func TestFullIsValid(t *testing.T) {
	full().fine(t)
}

// P10.1: a table has from one to five columns, and each subject as many values.
func TestColumns(t *testing.T) {
	for n := 1; n <= api.MaxColumns; n++ {
		for _, l := range [][]api.Subject{nil, {subject(1, make([]int, n)...)}, {subject(1, make([]int, n)...), subject(0, make([]int, n)...)}} {
			w := world{columns: n, l: l, q: heads(1)}
			if got := w.ask().errors(); got[0] != api.OK || got[1] != api.OK || got[2] != api.OK || got[3] != api.OK {
				t.Error(n, got)
			}
		}
		for _, other := range []int{0, n - 1, n + 1, 300} {
			for at := range 3 {
				w := world{columns: n, l: []api.Subject{subject(1, make([]int, n)...), subject(2, make([]int, n)...), subject(3, make([]int, n)...)}, q: heads(1)}
				w.l[at].Values = make([]int, other)
				if got := w.ask(); !got.is(wrongTable()) {
					t.Error(n, other, at, got)
				}
			}
		}
	}
	for _, n := range odd(1, api.MaxColumns) {
		for _, l := range [][]api.Subject{full().l, nil, {subject(1)}, {subject(1, 1, 1, 1, 1, 1, 1)}} {
			if got := full().with(func(w *world) { w.columns, w.l = n, l }).ask(); !got.is(wrongTable()) {
				t.Error(n, got)
			}
		}
	}
}

// P10.1: each number of a subject is valid at both ends of what it may be, and wrong
// beyond them, of whatever size and sign (R5).
func TestNumbersOfSubjects(t *testing.T) {
	for _, at := range []int{0, 7, 15} {
		numbers := []func(s *api.Subject) *int{func(s *api.Subject) *int { return &s.Id }}
		for column := range api.MaxColumns {
			numbers = append(numbers, func(s *api.Subject) *int { return &s.Values[column] })
		}
		for i, of := range numbers {
			most := api.MaxValue
			if i == 0 {
				most = api.MaxId
			}
			for _, n := range []int{0, most} {
				w := full()
				*of(&w.l[at]) = n
				if e := w.check(); e != api.OK {
					t.Error(at, i, n, e)
				}
			}
			for _, n := range odd(0, most) {
				w := full()
				*of(&w.l[at]) = n
				if got := w.ask(); !got.is(wrongTable()) {
					t.Error(at, i, n, got)
				}
			}
		}
	}
}

// ones are n subjects with one value.
func ones(n int) []api.Subject {
	var l []api.Subject
	for i := range n {
		l = append(l, subject(i, 1))
	}
	return l
}

// P10.1: there are at most 16 subjects, in any order, no two of which have the same
// Id, whatever their values are.
func TestSubjects(t *testing.T) {
	for i, x := range []struct {
		l  []api.Subject
		ok bool
	}{
		{nil, true},
		{ones(1), true},
		{ones(16), true},
		{ones(17), false},
		{ones(3000), false},
		{make([]api.Subject, 1), false},
		{[]api.Subject{subject(5, 1), subject(2, 1), subject(4, 1)}, true},
		{[]api.Subject{subject(2, 1), subject(2, 1)}, false},
		{[]api.Subject{subject(2, 1), subject(2, 3)}, false},
		{[]api.Subject{subject(2, 1), subject(5, 1), subject(2, 1)}, false},
		{[]api.Subject{subject(2, 1), subject(5, 2), subject(2, 3), subject(1, 4)}, false},
		{[]api.Subject{subject(0, 1), subject(0, 1)}, false},
		{append(ones(15), subject(0, 1)), false},
		{append(ones(15), subject(14, 1)), false},
		{[]api.Subject{subject(api.MaxId, 1), subject(0, 1)}, true},
		{[]api.Subject{subject(api.MaxId, 1), subject(api.MaxId, 1)}, false},
	} {
		w := world{columns: 1, l: x.l, q: heads(1), id: 2}
		if x.ok && w.check() != api.OK || !x.ok && !w.ask().is(wrongTable()) {
			t.Error(i, w.ask())
		}
	}
}

// wrongQuestion tells whether a question is wrong for the full world, also as one of
// an audit.
func wrongQuestion(q api.Question) bool {
	w := full().asked(q)
	alone, last := w.audited(q), w.audited(full().audit[0], q)
	want := wrong(api.OK, api.ErrQuestion, api.ErrAudit)
	return alone.ask().is(want) && last.ask().is(want)
}

func rightQuestion(q api.Question) bool {
	w := full().asked(q).audited(q)
	return w.meets().e == api.OK && w.sum().e == api.OK && w.deduced().e == api.OK
}

// P10.1, R5: likewise each number of a question, which goes for P10.2, too, and for
// those of an audit (P10.3 to P10.5).
func TestNumbersOfQuestions(t *testing.T) {
	for i, x := range []struct {
		of     func(q *api.Question) *int
		lo, hi int
	}{
		{func(q *api.Question) *int { return &q.Clip }, 1, api.MaxValue},
		{func(q *api.Question) *int { return &q.Step }, 1, api.MaxStep},
		{func(q *api.Question) *int { return &q.Wheres[0].Column }, 0, 4},
		{func(q *api.Question) *int { return &q.Wheres[0].Lo }, 0, api.MaxValue},
		{func(q *api.Question) *int { return &q.Wheres[0].Hi }, 0, api.MaxValue},
		{func(q *api.Question) *int { return &q.Wheres[3].Column }, 0, 4},
		{func(q *api.Question) *int { return &q.Wheres[3].Lo }, 0, api.MaxValue},
		{func(q *api.Question) *int { return &q.Wheres[3].Hi }, 0, api.MaxValue},
	} {
		for _, n := range []int{x.lo, x.hi} {
			q := full().q
			*x.of(&q) = n
			if !rightQuestion(q) {
				t.Error(i, n)
			}
		}
		for _, n := range odd(x.lo, x.hi) {
			q := full().q
			*x.of(&q) = n
			if !wrongQuestion(q) {
				t.Error(i, n)
			}
		}
	}
}

// P10.1: a question has a column of the table, or asks for heads with Clip 1.
func TestColumnsOfQuestions(t *testing.T) {
	for _, clip := range append(odd(1, api.MaxValue), 1, 2, 800, api.MaxValue) {
		valid := clip >= 1 && clip <= api.MaxValue
		for _, column := range append(odd(-1, 4), -1, 0, 2, 4) {
			q := of(column, clip, 10)
			if column >= 0 && column <= 4 && valid || column == -1 && clip == 1 {
				if !rightQuestion(q) {
					t.Error("right", q)
				}
			} else if !wrongQuestion(q) {
				t.Error("wrong", q)
			}
		}
	}
}

// P10.1: how many columns there are tells which ones a question may have.
func TestColumnsThatAreNotThere(t *testing.T) {
	for n := 1; n <= api.MaxColumns; n++ {
		for column := range 7 {
			w := world{columns: n, l: []api.Subject{subject(1, make([]int, n)...)}, id: 1}
			for _, q := range []api.Question{of(column, 5, 1), heads(1, where(column, 0, 5))} {
				got := w.asked(q).audited(q).ask()
				if want := wrong(api.OK, api.ErrQuestion, api.ErrAudit); column >= n && !got.is(want) {
					t.Error(n, q, got)
				}
				if column < n && (got.meets.e != api.OK || got.sum.e != api.OK || got.deduced.e != api.OK) {
					t.Error(n, q, got)
				}
			}
		}
	}
}

// P10.1: there are at most four Wheres, none of which is wrong; Lo may be above Hi,
// and a column may be there twice.
func TestWheres(t *testing.T) {
	in := where(1, 0, 20)
	for i, x := range []struct {
		l  []api.Where
		ok bool
	}{
		{nil, true},
		{slices.Repeat([]api.Where{in}, 4), true},
		{slices.Repeat([]api.Where{in}, 5), false},
		{slices.Repeat([]api.Where{in}, 3000), false},
		{make([]api.Where, 4), true},
		{[]api.Where{where(0, 9, 3)}, true},
		{[]api.Where{where(0, api.MaxValue, 0)}, true},
		{[]api.Where{where(0, 0, 9), where(4, 0, 9), where(0, 3, 5)}, true},
		{[]api.Where{where(api.Heads, 0, 9)}, false},
		{[]api.Where{in, in, in, where(5, 0, 9)}, false},
		{[]api.Where{where(0, 9, -1)}, false},
		{[]api.Where{where(0, api.MaxValue+1, 0)}, false},
	} {
		q := of(4, 9000, 10, x.l...)
		if x.ok && !rightQuestion(q) || !x.ok && !wrongQuestion(q) {
			t.Error(i)
		}
	}
}

// P10.1: a question is as valid in a table without subjects.
func TestQuestionsToNobody(t *testing.T) {
	w := world{columns: 2}
	for _, q := range []api.Question{{}, of(2, 5, 1), heads(0), heads(1, where(2, 0, 9)), of(0, 0, 1)} {
		if got := w.asked(q).audited(q).ask(); !got.is(wrong(api.OK, api.ErrQuestion, api.ErrAudit)) {
			t.Error(q, got)
		}
	}
	q := heads(1)
	want := wrong(api.OK, api.OK, api.ErrNone)
	want.sum.bound, want.deduced.e = 1, api.OK
	if got := w.asked(q).audited(q).ask(); !got.is(want) {
		t.Error(got)
	}
}

// P10.3 to P10.5: an audit has at most eight questions with the same Column and the
// same Clip, whatever their Steps and Wheres are.
func TestAudits(t *testing.T) {
	a := of(1, 50, 7)
	for i, x := range []struct {
		l  []api.Question
		ok bool
	}{
		{nil, true},
		{[]api.Question{a}, true},
		{slices.Repeat([]api.Question{a}, 8), true},
		{slices.Repeat([]api.Question{a}, 9), false},
		{slices.Repeat([]api.Question{a}, 3000), false},
		{[]api.Question{a, of(1, 50, 8), of(1, 50, api.MaxStep)}, true},
		{[]api.Question{a, of(1, 50, 7, where(3, 4, 5)), of(1, 50, 7, where(3, 5, 4))}, true},
		{[]api.Question{a, of(1, 51, 7)}, false},
		{[]api.Question{of(1, 51, 7), a}, false},
		{[]api.Question{a, of(2, 50, 7)}, false},
		{[]api.Question{a, a, a, of(1, 51, 7), a}, false},
		{[]api.Question{a, a, a, a, a, a, a, of(0, 50, 7)}, false},
		{[]api.Question{heads(1), heads(2)}, true},
		{[]api.Question{heads(1), of(0, 1, 1)}, false},
		{[]api.Question{of(0, 1, 1), heads(1)}, false},
		{[]api.Question{of(0, 1, 1), of(0, 1, 1)}, true},
		{make([]api.Question, 1), false},
		{[]api.Question{a, {}}, false},
		{[]api.Question{{}, a}, false},
		{[]api.Question{a, a, of(1, 50, 0), a}, false},
		{[]api.Question{a, a, of(1, 50, 7, where(5, 0, 1)), a}, false},
		{[]api.Question{of(1, 0, 7), of(1, 0, 7)}, false},
		{[]api.Question{of(5, 50, 7), of(5, 50, 7)}, false},
	} {
		w := full().audited(x.l...)
		got := w.ask()
		if x.ok && got.deduced.e != api.OK {
			t.Error(i, got)
		}
		if !x.ok && (got.deduced.e != api.ErrAudit || !same(got.how, how{e: api.ErrAudit}) || !same(got.hide, hidden{e: api.ErrAudit}) || len(got.deduced.ids) > 0 || got.meets.e != api.OK) {
			t.Error(i, got)
		}
	}
}

// R1: a table comes before a question and an audit, and an audit before the subject
// that is asked for.
func TestOrderOfErrors(t *testing.T) {
	invalid := full().asked(api.Question{}).audited(api.Question{}).about(-1)
	for i, change := range []func(w *world){
		func(w *world) { w.columns = 0 },
		func(w *world) { w.columns = 4 },
		func(w *world) { w.l = ones(2) },
		func(w *world) { w.l = append(slices.Clone(w.l), w.l[0]) },
	} {
		for _, w := range []world{invalid, invalid.asked(full().q), invalid.audited(full().audit...), full(), full().about(21)} {
			if got := w.with(change).ask(); !got.is(wrongTable()) {
				t.Error(i, got)
			}
		}
	}
	if got := invalid.ask(); !got.is(wrong(api.OK, api.ErrQuestion, api.ErrAudit)) {
		t.Error(got)
	}
}

// P10.4, P10.5, R5: who is asked for is one of the subjects.
func TestNobodyWithThisId(t *testing.T) {
	for _, id := range append(odd(0, api.MaxId), 0, 19, 21, 30, 341, api.MaxId, 1<<32+40) {
		for _, w := range []world{full(), full().audited(), full().audited(heads(1, where(0, 1, 1)))} {
			if got := w.about(id); !same(got.how(), how{e: api.ErrNone}) || !same(got.hide(), hidden{e: api.ErrNone}) {
				t.Error(id, got.how(), got.hide())
			}
		}
	}
	nobody := world{columns: 1}
	for _, w := range []world{nobody, nobody.audited(heads(1))} {
		if !same(w.how(), how{e: api.ErrNone}) || !same(w.hide(), hidden{e: api.ErrNone}) {
			t.Error(w.how(), w.hide())
		}
	}
}
