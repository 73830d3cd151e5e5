package score

import "goodname/api"

func within(n, lo, hi int) bool { return lo <= n && n <= hi }

// pointsValid tells whether all numbers may be points.
func pointsValid(l ...int) bool {
	return all(l, func(_, n int) bool { return within(n, -api.MaxPoints, api.MaxPoints) })
}

// all tells whether something holds for each index and element of a list.
func all[T any](l []T, holds func(i int, x T) bool) bool {
	for i, x := range l {
		if !holds(i, x) {
			return false
		}
	}
	return true
}

func modelValid(m api.Model) bool {
	return within(m.Traits, 1, api.MaxTraits) && pointsValid(m.Need) &&
		len(m.Cards) <= api.MaxCards && len(m.Trees) <= api.MaxTrees &&
		all(m.Cards, func(_ int, c api.Card) bool { return cardValid(c, m.Traits) }) &&
		all(m.Trees, func(_ int, t api.Tree) bool { return treeValid(t, m.Traits) })
}

func cardValid(c api.Card, traits int) bool {
	return within(c.Weight, 0, api.MaxWeight) && pointsValid(c.Base) &&
		len(c.Scales) == traits &&
		all(c.Scales, func(_ int, s api.Scale) bool { return scaleValid(s) })
}

func scaleValid(s api.Scale) bool {
	if len(s.Cuts) > api.MaxCuts || len(s.Points) != len(s.Cuts)+1 {
		return false
	}
	last := 0
	for _, c := range s.Cuts {
		if !within(c, last+1, api.MaxValue) {
			return false
		}
		last = c
	}
	return pointsValid(s.None) && pointsValid(s.Points...)
}

func treeValid(t api.Tree, traits int) bool {
	return within(t.Weight, 0, api.MaxWeight) &&
		within(len(t.Nodes), 1, api.MaxNodes) &&
		all(t.Nodes, func(i int, n api.Node) bool { return nodeValid(n, i+1, len(t.Nodes)-1, traits) })
}

// nodeValid is told the indices of the nodes after the node: from next to last.
func nodeValid(n api.Node, next, last, traits int) bool {
	if n.Trait == api.Leaf {
		return n == api.Node{Trait: api.Leaf, Points: n.Points} && pointsValid(n.Points)
	}
	return within(n.Trait, 0, traits-1) && within(n.Cut, 1, api.MaxValue) &&
		within(n.Low, next, last) && within(n.High, next, last) && n.Low != n.High &&
		n.Points == 0
}

// valuesValid tells whether there are values for the model.
func (m model) valuesValid(x []int) bool {
	return len(x) == m.Traits &&
		all(x, func(_, v int) bool { return v == api.Missing || within(v, 0, api.MaxValue) })
}

// spansValid tells whether there are spans of values for the model.
func (m model) spansValid(x []api.Span) bool {
	return len(x) == m.Traits &&
		all(x, func(_ int, s api.Span) bool { return within(s.Lo, 0, s.Hi) && s.Hi <= api.MaxValue })
}
