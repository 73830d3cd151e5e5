package sum

import (
	"slices"

	"goodname/api"
)

func within(n, lo, hi int) bool { return lo <= n && n <= hi }

func valueValid(n int) bool { return within(n, 0, api.MaxValue) }

func columnValid(n, columns int) bool { return within(n, 0, columns-1) }

func tableValid(columns int, l []api.Subject) bool {
	invalid := func(s api.Subject) bool { return !subjectValid(columns, s) }
	return within(columns, 1, api.MaxColumns) &&
		len(l) <= api.MaxSubjects &&
		!slices.ContainsFunc(l, invalid) &&
		len(valuesById(l)) == len(l)
}

func subjectValid(columns int, s api.Subject) bool {
	invalid := func(n int) bool { return !valueValid(n) }
	return within(s.Id, 0, api.MaxId) &&
		len(s.Values) == columns &&
		!slices.ContainsFunc(s.Values, invalid)
}

func questionValid(columns int, q api.Question) bool {
	invalid := func(w api.Where) bool { return !whereValid(columns, w) }
	return len(q.Wheres) <= api.MaxWheres &&
		!slices.ContainsFunc(q.Wheres, invalid) &&
		countValid(columns, q) &&
		within(q.Step, 1, api.MaxStep)
}

func whereValid(columns int, w api.Where) bool {
	return columnValid(w.Column, columns) && valueValid(w.Lo) && valueValid(w.Hi)
}

// countValid tells whether a question says what subjects count.
func countValid(columns int, q api.Question) bool {
	if q.Column == api.Heads {
		return q.Clip == 1
	}
	return columnValid(q.Column, columns) && within(q.Clip, 1, api.MaxValue)
}

func auditValid(columns int, l []api.Question) bool {
	unfit := func(q api.Question) bool { return !questionValid(columns, q) || kind(q) != kind(l[0]) }
	return len(l) <= api.MaxAudit && !slices.ContainsFunc(l, unfit)
}

// kind is what all questions of an audit have in common, so that to all of them a
// subject counts the same.
func kind(q api.Question) [2]int { return [2]int{q.Column, q.Clip} }
