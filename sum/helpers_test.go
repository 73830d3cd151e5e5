package sum_test

import (
	"fmt"
	"maps"
	"math"
	"math/rand"
	"slices"
	"testing"

	"goodname/api"
	"goodname/sum"
)

func subject(id int, values ...int) api.Subject { return api.Subject{Id: id, Values: values} }

func where(column, lo, hi int) api.Where { return api.Where{Column: column, Lo: lo, Hi: hi} }

// of is a question for the sum of a column.
func of(column, clip, step int, wheres ...api.Where) api.Question {
	return api.Question{Wheres: wheres, Column: column, Clip: clip, Step: step}
}

func heads(step int, wheres ...api.Where) api.Question { return of(api.Heads, 1, step, wheres...) }

// met, summed, deduced, how and hidden are what functions answer.
type met struct {
	ids []int
	e   api.Errno
}

type summed struct {
	printed, bound int
	e              api.Errno
}

type deduced struct {
	ids []int
	e   api.Errno
}

type how struct {
	parts []int
	whole int
	e     api.Errno
}

type hidden struct {
	more []int
	e    api.Errno
}

// world is all that calls are about: a table, a question, an audit, and of whom the
// value is asked for.
type world struct {
	columns int
	l       []api.Subject
	q       api.Question
	audit   []api.Question
	id      int
}

func (w world) check() api.Errno { return sum.Check(w.columns, w.l) }

func (w world) meets() met {
	ids, e := sum.Meets(w.columns, w.l, w.q)
	return met{ids, e}
}

func (w world) sum() summed {
	printed, bound, e := sum.Sum(w.columns, w.l, w.q)
	return summed{printed, bound, e}
}

func (w world) deduced() deduced {
	ids, e := sum.Deduced(w.columns, w.l, w.audit)
	return deduced{ids, e}
}

func (w world) how() how {
	parts, whole, e := sum.How(w.columns, w.l, w.audit, w.id)
	return how{parts, whole, e}
}

func (w world) hide() hidden {
	more, e := sum.Hide(w.columns, w.l, w.audit, w.id)
	return hidden{more, e}
}

// with returns a world that is changed. Lists of it are to be put, not written to.
func (w world) with(f func(w *world)) world {
	f(&w)
	return w
}

// asked is a world with another question.
func (w world) asked(q api.Question) world {
	w.q = q
	return w
}

// audited is a world with another audit.
func (w world) audited(l ...api.Question) world {
	w.audit = l
	return w
}

// about is a world in which the value of another subject is asked for.
func (w world) about(id int) world {
	w.id = id
	return w
}

// answers are all that the functions answer.
type answers struct {
	check   api.Errno
	meets   met
	sum     summed
	deduced deduced
	how     how
	hide    hidden
}

func (w world) ask() answers {
	return answers{w.check(), w.meets(), w.sum(), w.deduced(), w.how(), w.hide()}
}

func (a answers) is(b answers) bool { return same(a, b) }

// errors are those of all answers.
func (a answers) errors() [6]api.Errno {
	return [6]api.Errno{a.check, a.meets.e, a.sum.e, a.deduced.e, a.how.e, a.hide.e}
}

// wrong are answers of a table, a question and an audit that have these errors.
func wrong(table, question, audit api.Errno) answers {
	return answers{table, met{e: question}, summed{e: question}, deduced{e: audit}, how{e: audit}, hidden{e: audit}}
}

func wrongTable() answers { return wrong(api.ErrTable, api.ErrTable, api.ErrTable) }

// fine calls all functions for a world of which all is valid, and returns what they
// answer. Just one of How and Hide has an answer.
func (w world) fine(t *testing.T) answers {
	t.Helper()
	got := w.ask()
	want := [6]api.Errno{}
	if got.how.e == api.OK {
		want[5] = api.ErrNone
	} else {
		want[4] = api.ErrNone
	}
	if got.errors() != want {
		t.Fatal(w, got.errors())
	}
	return got
}

// same compares by what is printed, where a nil list and an empty one are the
// same.
func same(a, b any) bool { return fmt.Sprint(a) == fmt.Sprint(b) }

// odd are numbers that are not what a field takes, of whatever size: some are
// valid ones in fewer bits.
func odd(lo, hi int) []int {
	return []int{lo - 1, hi + 1, math.MinInt, math.MaxInt, math.MinInt + 1, math.MaxInt - 1, 1<<48 + lo, -(1 << 48) + hi, -1 << 31, 1<<32 + hi}
}

func idsOf(l []api.Subject) []int {
	var out []int
	for _, s := range l {
		out = append(out, s.Id)
	}
	return out
}

// spread is the column by which the questions of sets count.
const spread = 4

// sets is a world of subjects, which count as told, with an audit of questions that
// ask for just these sets of them. A column is for two sets: a subject has 1 if it
// is in the first one, 3 if it is in the other one, and 2 if it is in both.
func sets(counts map[int]int, l ...[]int) world {
	w := world{columns: 5}
	for _, id := range slices.Sorted(maps.Keys(counts)) {
		w.l = append(w.l, subject(id, 0, 0, 0, 0, counts[id]))
	}
	for i, set := range l {
		w.audit = append(w.audit, of(spread, 1000, 1, where(i/2, 1+i%2, 2+i%2)))
		for _, s := range w.l {
			if slices.Contains(set, s.Id) {
				s.Values[i/2] = both(s.Values[i/2], 1+i%2*2)
			}
		}
	}
	return w
}

// both is what stands for a set and the one before it, of which a subject has that
// one's already, or 0.
func both(before, own int) int {
	if before == 0 {
		return own
	}
	return 2
}

// people are subjects with Ids from 1 on, who count 100, 200 and so on.
func people(n int) map[int]int {
	out := map[int]int{}
	for id := 1; id <= n; id++ {
		out[id] = 100 * id
	}
	return out
}

// random makes tables and questions.
type random struct{ *rand.Rand }

func newRandom(seed int64) random { return random{rand.New(rand.NewSource(seed))} }

func pick[T any](r random, l ...T) T { return l[r.Intn(len(l))] }

// subjects are n ones with values from 0 to 9, in any order.
func (r random) subjects(columns, n int) []api.Subject {
	var l []api.Subject
	for _, id := range r.Perm(3 * n)[:n] {
		s := subject(id)
		for range columns {
			s.Values = append(s.Values, r.Intn(10))
		}
		l = append(l, s)
	}
	return l
}

// question is one for values until 9, which asks for about half of all or more.
func (r random) question(columns int) api.Question {
	q := of(r.Intn(columns), 1+r.Intn(12), 1+r.Intn(25))
	if r.Intn(4) == 0 {
		q.Column, q.Clip = api.Heads, 1
	}
	for range r.Intn(5) {
		lo := r.Intn(4)
		q.Wheres = append(q.Wheres, where(r.Intn(columns), lo, lo+5+r.Intn(4)))
	}
	return q
}

// field is a world of questions of all kinds.
func (r random) field() world {
	w := world{columns: 1 + r.Intn(5)}
	w.l = r.subjects(w.columns, r.Intn(17))
	w.q = r.question(w.columns)
	for range r.Intn(9) {
		q := r.question(w.columns)
		q.Column, q.Clip = w.q.Column, w.q.Clip
		w.audit = append(w.audit, q)
	}
	return w.aboutAny(r)
}

// aboutAny is a world in which the value of any of its subjects is asked for.
func (w world) aboutAny(r random) world {
	if len(w.l) > 0 {
		w.id = pick(r, w.l...).Id
	}
	return w
}

// counts are what so many subjects count, of any Ids.
func (r random) counts(n int) map[int]int {
	out := map[int]int{}
	for _, id := range r.Perm(3 * n)[:n] {
		out[id] = 100 + r.Intn(700)
	}
	return out
}

// web is a world of from 1 to 16 subjects and so many questions, which ask for any
// sets of them: some for the same set, for nobody, or for those of two others.
func (r random) web(questions int) world {
	n := 1 + r.Intn(16)
	if r.Intn(2) == 0 {
		n = 1 + r.Intn(questions+1)
	}
	counts := r.counts(n)
	in := pick(r, 20, 40, 50, 70)
	var l [][]int
	for range questions {
		var set []int
		for id := range 3 * n {
			if _, is := counts[id]; is && r.Intn(100) < in {
				set = append(set, id)
			}
		}
		if len(l) > 1 && r.Intn(8) == 0 {
			set = union(pick(r, l...), pick(r, l...))
		}
		l = append(l, set)
	}
	w := sets(counts, l...).asked(of(spread, 1000, 50)).aboutAny(r)
	r.Shuffle(len(w.l), func(i, k int) { w.l[i], w.l[k] = w.l[k], w.l[i] })
	r.Shuffle(len(w.audit), func(i, k int) { w.audit[i], w.audit[k] = w.audit[k], w.audit[i] })
	return w
}

func union(a, b []int) []int {
	out := slices.Concat(a, b)
	slices.Sort(out)
	return slices.Compact(out)
}

// either is a world of one of both kinds with somebody in it.
func (r random) either() world {
	if w := r.field(); len(w.l) > 0 && r.Intn(2) == 0 {
		return w
	}
	return r.web(r.Intn(9))
}
