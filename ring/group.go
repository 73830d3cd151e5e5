package ring

import (
	"slices"
	"sort"
)

// group returns a filing, and all that are tied to one of the group, in the order
// of the list.
func (w *hunt) group(of, strength int) []int {
	left := w.all()
	var reach func(i int)
	reach = func(i int) {
		delete(left, i)
		for k := range len(w.ids) {
			if left[k] && w.tied(i, k, strength) {
				reach(k)
			}
		}
	}
	reach(of)
	var out []int
	for i := range len(w.ids) {
		if !left[i] {
			out = append(out, i)
		}
	}
	return out
}

// rings returns the Ids of the groups that have enough filings. Each group is
// found from its first filing.
func (w *hunt) rings(strength int) [][]int {
	var out [][]int
	for i := range len(w.ids) {
		g := w.group(i, strength)
		if g[0] == i && len(g) >= w.Size {
			out = append(out, w.idsOf(g))
		}
	}
	return out
}

// caught returns how many filings are in rings at a strength, and how many of these
// are good.
func (w *hunt) caught(strength int, good []int) (caught, alarms int) {
	for _, id := range slices.Concat(w.rings(strength)...) {
		caught++
		if slices.Contains(good, id) {
			alarms++
		}
	}
	return caught, alarms
}

// next returns the greatest weight of one of a group and one that is not of it.
func (w *hunt) next(group []int) int {
	var l []int
	for i, k := range pairs(len(w.ids)) {
		if slices.Contains(group, i) != slices.Contains(group, k) {
			l = append(l, w.weights[i][k])
		}
	}
	return greatest(0, l...)
}

func greatest(n int, more ...int) int {
	for _, k := range more {
		n = max(n, k)
	}
	return n
}

// turns returns, in order, the strengths from which on groups may be others: the
// first one, and one above each weight. At the last one no two filings are tied.
func (w *hunt) turns() []int {
	l := []int{1}
	for i, k := range pairs(len(w.ids)) {
		l = append(l, w.weights[i][k]+1)
	}
	slices.Sort(l)
	return l
}

// first returns the first element of a list for which something holds. It has to
// hold for all elements after that one, and for the last one.
func first[T any](l []T, holds func(T) bool) T {
	last := len(l) - 1
	return l[sort.Search(last, func(i int) bool { return holds(l[i]) })]
}
