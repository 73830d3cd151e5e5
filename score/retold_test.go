package score_test

import (
	"cmp"
	"slices"

	"goodname/api"
)

// What follows tells again, as directly as can be, what the chapter defines.

// sayOfScale is what a scale says for a value.
func sayOfScale(s api.Scale, v int) int {
	if v == -1 {
		return s.None
	}
	reached := 0
	for _, c := range s.Cuts {
		if c <= v {
			reached++
		}
	}
	return s.Points[reached]
}

// sayOfNode is what the nodes of a tree say from one on.
func sayOfNode(l []api.Node, i int, x []int) int {
	n := l[i]
	switch {
	case n.Trait == -1:
		return n.Points
	case x[n.Trait] == -1 || x[n.Trait] < n.Cut:
		return sayOfNode(l, n.Low, x)
	}
	return sayOfNode(l, n.High, x)
}

// pointsOf are the points of the cards, and of the trees.
func pointsOf(m api.Model, x []int) []int {
	var l []int
	for _, c := range m.Cards {
		n := c.Base
		for trait, v := range x {
			n += sayOfScale(c.Scales[trait], v)
		}
		l = append(l, n)
	}
	for _, t := range m.Trees {
		l = append(l, sayOfNode(t.Nodes, 0, x))
	}
	return l
}

// sumOf is the score.
func sumOf(m api.Model, x []int) int {
	l := pointsOf(m, x)
	n := 0
	for i, c := range m.Cards {
		n += c.Weight * l[i]
	}
	for i, t := range m.Trees {
		n += t.Weight * l[len(m.Cards)+i]
	}
	return n
}

func answerOf(m api.Model, x []int) bool { return sumOf(m, x) >= 1000*m.Need }

// eachOf calls a function with each list of numbers of which one is taken from each
// list, in order, until it answers true.
func eachOf(choices [][]int, is func(x []int) bool) bool {
	x := make([]int, len(choices))
	at := make([]int, len(choices))
	for {
		for i, l := range choices {
			x[i] = l[at[i]]
		}
		if is(x) {
			return true
		}
		i := len(at) - 1
		for ; i >= 0; i-- {
			if at[i]++; at[i] < len(choices[i]) {
				break
			}
			at[i] = 0
		}
		if i < 0 {
			return false
		}
	}
}

// gridOf are the values of the grid in spans.
func gridOf(spans []api.Span) [][]int {
	var out [][]int
	for _, s := range spans {
		out = append(out, slices.DeleteFunc(grid(), func(v int) bool { return v < s.Lo || v > s.Hi }))
	}
	return out
}

// spanOf is the least and the greatest score of values of the grid in spans.
func spanOf(m api.Model, spans []api.Span) api.Span {
	var all []int
	eachOf(gridOf(spans), func(x []int) bool {
		all = append(all, sumOf(m, x))
		return false
	})
	return span(slices.Min(all), slices.Max(all))
}

// otherwise are the first values of the grid for some traits with which the answer
// is the other one.
func otherwise(m api.Model, x, traits []int) ([]int, bool) {
	var choices [][]int
	for range traits {
		choices = append(choices, grid())
	}
	was := answerOf(m, x)
	y := slices.Clone(x)
	var found []int
	ok := eachOf(choices, func(values []int) bool {
		for i, trait := range traits {
			y[trait] = values[i]
		}
		found = slices.Clone(values)
		return answerOf(m, y) != was
	})
	return found, ok
}

// setsOf are all lists of traits, each in ascending order, in no order.
func setsOf(traits int) [][]int {
	out := [][]int{nil}
	for trait := range traits {
		for _, l := range out {
			out = append(out, append(slices.Clone(l), trait))
		}
	}
	return out[1:]
}

// reasonsAgain is what Reasons is to answer.
func reasonsAgain(m api.Model, x []int) reasoned {
	best := reasoned{e: api.ErrNone}
	for _, traits := range setsOf(m.Traits) {
		if best.e == api.OK && cmp.Or(cmp.Compare(len(best.traits), len(traits)), slices.Compare(best.traits, traits)) < 0 {
			continue
		}
		if values, ok := otherwise(m, x, traits); ok {
			best = reasoned{traits, values, api.OK}
		}
	}
	return best
}
