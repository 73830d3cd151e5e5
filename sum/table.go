package sum

import (
	"slices"

	"goodname/api"
	"goodname/order"
)

// table is a table at work. Subjects are told by where they are in the order of
// their Ids.
type table struct {
	ids    []int // of the subjects, in ascending order
	values map[int][]int
}

// open returns a table at work.
func open(columns int, l []api.Subject) (table, api.Errno) {
	if e := Check(columns, l); e != api.OK {
		return table{}, e
	}
	t := table{values: valuesById(l)}
	for _, s := range order.By(slices.Values(l), func(s api.Subject) int { return s.Id }) {
		t.ids = append(t.ids, s.Id)
	}
	return t, api.OK
}

// openFor returns a table at work, if a question is valid for it.
func openFor(columns int, l []api.Subject, q api.Question) (table, api.Errno) {
	t, e := open(columns, l)
	if e != api.OK {
		return table{}, e
	}
	if !questionValid(columns, q) {
		return table{}, api.ErrQuestion
	}
	return t, api.OK
}

// valuesById returns the values of all subjects. There are fewer than subjects if
// two have the same Id.
func valuesById(l []api.Subject) map[int][]int {
	out := map[int][]int{}
	for _, s := range l {
		out[s.Id] = s.Values
	}
	return out
}

// asked returns who is asked for, as bits: that of the first subject is the lowest
// one.
func (t table) asked(q api.Question) int {
	bits := 0
	for i, id := range t.ids {
		if asksFor(q, t.values[id]) {
			bits |= 1 << i
		}
	}
	return bits
}

// asksFor tells whether a question asks for a subject with some values.
func asksFor(q api.Question, values []int) bool {
	return !slices.ContainsFunc(q.Wheres, func(w api.Where) bool {
		return !within(values[w.Column], w.Lo, w.Hi)
	})
}

func (t table) meets(q api.Question) []int {
	bits := t.asked(q)
	var out []int
	for i := range len(t.ids) {
		if bits>>i&1 == 1 {
			out = append(out, t.ids[i])
		}
	}
	return out
}

func (t table) sum(q api.Question) int {
	sum := 0
	for _, id := range t.meets(q) {
		sum += counts(q, t.values[id])
	}
	return sum
}

// counts returns what a subject with some values counts to a question.
func counts(q api.Question, values []int) int {
	if q.Column == api.Heads {
		return 1
	}
	return min(values[q.Column], q.Clip)
}

// nearest returns the multiple of step that is nearest to n, the greater one if
// there are two.
func nearest(n, step int) int { return (n + step/2) / step * step }

// atLeast returns the least multiple of step that is at least n.
func atLeast(n, step int) int { return (n + step - 1) / step * step }
