package score

import (
	"cmp"
	"iter"
	"math"
	"slices"

	"goodname/api"
)

// typical yields the values of a span that stand for all others, in order: the
// first one, and each cut, as all values up to the next cut have the same points.
func typical(s api.Span, cuts []int) iter.Seq[int] {
	return func(yield func(int) bool) {
		if !yield(s.Lo) {
			return
		}
		for _, c := range cuts {
			if s.Lo < c && c <= s.Hi && !yield(c) {
				return
			}
		}
	}
}

// lists yields the lists of typical values of spans, in order. It is one list that
// changes: who keeps it has to copy it.
func (m model) lists(spans []api.Span) iter.Seq[[]int] {
	return func(yield func([]int) bool) {
		cuts := m.cuts()
		x := make([]int, len(spans))
		var choose func(trait int) bool
		choose = func(trait int) bool {
			if trait == len(spans) {
				return yield(x)
			}
			for v := range typical(spans[trait], cuts[trait]) {
				x[trait] = v
				if !choose(trait + 1) {
					return false
				}
			}
			return true
		}
		choose(0)
	}
}

func greatest(n int, more ...int) int {
	for _, k := range more {
		if k > n {
			n = k
		}
	}
	return n
}

// between returns the least and the greatest score. The least one is kept with
// the other sign, so that both ends are the greatest of something.
func (m model) between(spans []api.Span) api.Span {
	ends := [2]int{math.MinInt, math.MinInt}
	for x := range m.lists(spans) {
		n := m.score(x)
		ends = [2]int{greatest(ends[0], -n), greatest(ends[1], n)}
	}
	return api.Span{Lo: -ends[0], Hi: ends[1]}
}

// sets returns all sets of traits: smaller ones first, and of the same size those
// first whose first trait that differs is less.
func (m model) sets() [][]int {
	var out [][]int
	for bits := range 1 << m.Traits {
		var set []int
		for trait := range m.Traits {
			if bits>>trait&1 == 1 {
				set = append(set, trait)
			}
		}
		out = append(out, set)
	}
	slices.SortFunc(out, func(a, b []int) int {
		return cmp.Or(cmp.Compare(len(a), len(b)), slices.Compare(a, b))
	})
	return out
}

// reasons returns the first set of traits by which the answer may be the other
// one, and the first values of these with which it is; nothing if there is none.
func (m model) reasons(x []int) (traits, values []int) {
	was := m.yes(m.score(x))
sets:
	for _, set := range m.sets() {
		for y := range m.lists(free(x, set)) {
			if m.yes(m.score(y)) == was {
				continue
			}
			for _, trait := range set {
				values = append(values, y[trait])
			}
			traits = set
			break sets
		}
	}
	return traits, values
}

// free returns spans of all values for a set of traits, and of just their values
// for the others, also of those that are missing.
func free(x, set []int) []api.Span {
	var spans []api.Span
	for trait, v := range x {
		s := api.Span{Lo: v, Hi: v}
		if slices.Contains(set, trait) {
			s = api.Span{Lo: 0, Hi: api.MaxValue}
		}
		spans = append(spans, s)
	}
	return spans
}
