package score_test

import (
	"slices"
	"testing"

	"goodname/api"
	"goodname/score"
)

// refused tells whether all functions return an error, and nothing beside it.
func refused(m api.Model, x []int, spans []api.Span, want api.Errno) bool {
	l, e := score.Points(m, x)
	s, f := score.Between(m, spans)
	return scoreOf(m, x...) == scored{e: want} && reasonsOf(m, x...).is(reasoned{e: want}) &&
		e == want && len(l) == 0 && f == want && s == api.Span{}
}

// wrong tells whether all functions return ErrModel before they look at values.
func wrong(m api.Model) bool {
	good := []api.Span{{}, {}, {}, {}, {}}
	return score.Check(m) == api.ErrModel &&
		refused(m, []int{0, 0, 0, 0, 0}, good, api.ErrModel) &&
		refused(m, nil, nil, api.ErrModel) &&
		refused(m, []int{-9}, []api.Span{{Lo: 2, Hi: 1}}, api.ErrModel)
}

// place is a number in a model, and what it may be.
type place struct {
	name   string
	at     func(m *api.Model) *int
	lo, hi int
}

func topPlaces() []place {
	return []place{
		{"Traits", func(m *api.Model) *int { return &m.Traits }, api.MaxTraits, api.MaxTraits},
		{"Need", func(m *api.Model) *int { return &m.Need }, -api.MaxPoints, api.MaxPoints},
	}
}

// cardPlaces are those of the cards of the largest model.
func cardPlaces() []place {
	var l []place
	for i := range api.MaxCards {
		of := func(m *api.Model) *api.Card { return &m.Cards[i] }
		l = append(l, place{"Weight", func(m *api.Model) *int { return &of(m).Weight }, 0, api.MaxWeight})
		l = append(l, place{"Base", func(m *api.Model) *int { return &of(m).Base }, -api.MaxPoints, api.MaxPoints})
		for k := range api.MaxTraits {
			l = append(l, scalePlaces(func(m *api.Model) *api.Scale { return &of(m).Scales[k] })...)
		}
	}
	return l
}

func scalePlaces(of func(m *api.Model) *api.Scale) []place {
	l := []place{{"None", func(m *api.Model) *int { return &of(m).None }, -api.MaxPoints, api.MaxPoints}}
	for i := range api.MaxCuts + 1 {
		l = append(l, place{"Points of a scale", func(m *api.Model) *int { return &of(m).Points[i] }, -api.MaxPoints, api.MaxPoints})
	}
	m := largest()
	cuts := append([]int{0}, append(of(&m).Cuts, api.MaxValue+1)...)
	for i := range api.MaxCuts {
		l = append(l, place{"Cut of a scale", func(m *api.Model) *int { return &of(m).Cuts[i] }, cuts[i] + 1, cuts[i+2] - 1})
	}
	return l
}

// treePlaces are those of the trees of the largest model: nodes with the traits 0
// to 4, and the leaves 5 and 6. What is not asked for has to be 0.
func treePlaces() []place {
	var l []place
	for i := range api.MaxTrees {
		l = append(l, place{"Weight of a tree", func(m *api.Model) *int { return &m.Trees[i].Weight }, 0, api.MaxWeight})
		for k := range api.MaxNodes {
			of := func(m *api.Model) *api.Node { return &m.Trees[i].Nodes[k] }
			add := func(name string, at func(n *api.Node) *int, lo, hi int) {
				l = append(l, place{name, func(m *api.Model) *int { return at(of(m)) }, lo, hi})
			}
			if k >= api.MaxNodes-2 {
				add("Trait of a leaf", func(n *api.Node) *int { return &n.Trait }, api.Leaf, api.Leaf)
				add("Points of a leaf", func(n *api.Node) *int { return &n.Points }, -api.MaxPoints, api.MaxPoints)
				add("Cut of a leaf", func(n *api.Node) *int { return &n.Cut }, 0, 0)
				add("Low of a leaf", func(n *api.Node) *int { return &n.Low }, 0, 0)
				add("High of a leaf", func(n *api.Node) *int { return &n.High }, 0, 0)
				continue
			}
			add("Trait", func(n *api.Node) *int { return &n.Trait }, 0, api.MaxTraits-1)
			add("Cut", func(n *api.Node) *int { return &n.Cut }, 1, api.MaxValue)
			add("Points of a node", func(n *api.Node) *int { return &n.Points }, 0, 0)
			// Low may not be k+2, as High is; see also TestWaysOfNodes.
			add("Low", func(n *api.Node) *int { return &n.Low }, k+1, k+1)
			add("High", func(n *api.Node) *int { return &n.High }, k+2, api.MaxNodes-1)
		}
	}
	return l
}

// P6.1: each number of a model is valid at both ends of what it may be, and wrong
// beyond them, of whatever size and sign (R5).
func TestNumbersOfModels(t *testing.T) {
	for _, p := range slices.Concat(topPlaces(), cardPlaces(), treePlaces()) {
		for _, n := range []int{p.lo, p.hi} {
			if e := score.Check(with(largest(), func(m *api.Model) { *p.at(m) = n })); e != api.OK {
				t.Error(p.name, n, e)
			}
		}
		for _, n := range odd(p.lo, p.hi) {
			if !wrong(with(largest(), func(m *api.Model) { *p.at(m) = n })) {
				t.Error(p.name, n)
			}
		}
	}
}

// P6.1: models of the least size are valid, also a tree whose only node is a leaf.
func TestLeastModels(t *testing.T) {
	for i, m := range []api.Model{
		{Traits: 1},
		{Traits: 5, Need: -7},
		{Traits: 1, Cards: []api.Card{{Scales: []api.Scale{{Points: []int{0}}}}}},
		{Traits: 1, Trees: []api.Tree{{Nodes: []api.Node{leaf(0)}}}},
		{Traits: 2, Trees: []api.Tree{{Nodes: []api.Node{leaf(3), leaf(4)}}, {Nodes: []api.Node{leaf(3), ask(1, 1, 3, 2), leaf(1), leaf(2)}}}},
		exampleModel(),
		largest(),
	} {
		if e := score.Check(m); e != api.OK {
			t.Error(i, e)
		}
	}
	// Without cards and trees nothing else tells how many traits there are.
	for _, n := range odd(1, api.MaxTraits) {
		if !wrong(api.Model{Traits: n}) {
			t.Error(n)
		}
	}
}

// P6.1: Low and High are nodes after their node, in any order, but not the same
// one; several nodes may lead to one, and some may be reached by none.
func TestWaysOfNodes(t *testing.T) {
	for i, x := range []struct {
		low, high int
		ok        bool
	}{
		{2, 3, true}, {3, 2, true}, {2, 6, true}, {6, 2, true}, {5, 6, true},
		{2, 2, false}, {6, 6, false}, {1, 2, false}, {2, 1, false}, {0, 2, false}, {2, 0, false}, {2, 7, false}, {7, 2, false}, {-1, 2, false}, {2, -1, false},
	} {
		m := with(largest(), func(m *api.Model) { m.Trees[1].Nodes[1].Low, m.Trees[1].Nodes[1].High = x.low, x.high })
		if x.ok && score.Check(m) != api.OK || !x.ok && !wrong(m) {
			t.Error(i, x)
		}
	}
	// Just -1 is a leaf.
	if !wrong(with(largest(), func(m *api.Model) { m.Trees[1].Nodes[1].Trait = api.Leaf - 1 })) {
		t.Error("a trait below that of a leaf")
	}
	// The last node, and the last but one, have not two nodes after them.
	for i, n := range []api.Node{ask(0, 1, 6, 7), ask(0, 1, 6, 6), ask(0, 1, 7, 6)} {
		if !wrong(with(largest(), func(m *api.Model) { m.Trees[0].Nodes[5] = n })) || !wrong(with(largest(), func(m *api.Model) { m.Trees[0].Nodes[6] = n })) {
			t.Error(i)
		}
	}
}

// P6.1: the lists of a model are as long as they may be, and no longer.
func TestLengthsOfLists(t *testing.T) {
	for i, x := range []struct {
		ok     bool
		change func(m *api.Model)
	}{
		{true, func(m *api.Model) { m.Cards = m.Cards[:1] }},
		{true, func(m *api.Model) { m.Cards = nil }},
		{false, func(m *api.Model) { m.Cards = append(m.Cards, m.Cards[0]) }},
		{false, func(m *api.Model) { m.Cards = slices.Repeat(m.Cards, 1000) }},
		{true, func(m *api.Model) { m.Trees = m.Trees[:1] }},
		{true, func(m *api.Model) { m.Trees = nil }},
		{false, func(m *api.Model) { m.Trees = append(m.Trees, m.Trees[0]) }},
		{false, func(m *api.Model) { m.Trees = slices.Repeat(m.Trees, 1000) }},
		{false, func(m *api.Model) { m.Cards[1].Scales = m.Cards[1].Scales[:4] }},
		{false, func(m *api.Model) { m.Cards[1].Scales = append(m.Cards[1].Scales, scale(0, 0)) }},
		{false, func(m *api.Model) { m.Cards[0].Scales = nil }},
		{true, func(m *api.Model) { m.Cards[1].Scales[4] = scale(0, 0) }},
		{true, func(m *api.Model) { m.Cards[1].Scales[4].Cuts = []int{}; m.Cards[1].Scales[4].Points = []int{1} }},
		{false, func(m *api.Model) { m.Cards[1].Scales[4] = api.Scale{} }},
		{false, func(m *api.Model) { m.Cards[1].Scales[4].Points = []int{1, 2, 3} }},
		{false, func(m *api.Model) { m.Cards[1].Scales[4].Points = []int{1, 2, 3, 4, 5} }},
		{false, func(m *api.Model) { m.Cards[1].Scales[4].Cuts = []int{1, 2} }},
		{false, func(m *api.Model) { m.Cards[0].Scales[0] = scale(0, 0, 1, 1, 2, 2, 3, 3, 4, 4) }},
		{true, func(m *api.Model) { m.Trees[1].Nodes = []api.Node{leaf(9)} }},
		{false, func(m *api.Model) { m.Trees[1].Nodes = nil }},
		{false, func(m *api.Model) { m.Trees[1].Nodes = append(m.Trees[1].Nodes, leaf(0)) }},
		{false, func(m *api.Model) { m.Trees[0].Nodes = m.Trees[0].Nodes[:6] }},
		{false, func(m *api.Model) { m.Trees[0].Nodes = slices.Repeat([]api.Node{leaf(1)}, 8) }},
	} {
		m := with(largest(), x.change)
		if x.ok && score.Check(m) != api.OK || !x.ok && !wrong(m) {
			t.Error(i)
		}
	}
}

// P6.1: cuts are in increasing order, none of them twice.
func TestOrderOfCuts(t *testing.T) {
	for i, x := range []struct {
		cuts []int
		ok   bool
	}{
		{[]int{1, 2, 3}, true}, {[]int{1, 500, api.MaxValue}, true}, {[]int{api.MaxValue - 2, api.MaxValue - 1, api.MaxValue}, true},
		{[]int{1, 1, 3}, false}, {[]int{1, 3, 3}, false}, {[]int{3, 2, 4}, false}, {[]int{2, 4, 3}, false}, {[]int{0, 1, 2}, false}, {[]int{-1, 1, 2}, false}, {[]int{1, 2, api.MaxValue + 1}, false},
	} {
		m := with(largest(), func(m *api.Model) { m.Cards[1].Scales[3].Cuts = x.cuts })
		if x.ok && score.Check(m) != api.OK || !x.ok && !wrong(m) {
			t.Error(i, x)
		}
	}
}

// P6.1, P6.3: values are one number for each trait, from 0 to MaxValue, or Missing.
func TestWhatValuesAre(t *testing.T) {
	ok := func(x []int) bool {
		l, e := score.Points(largest(), x)
		got := reasonsOf(with(largest(), func(m *api.Model) { m.Need = -1000 }), x...)
		return scoreOf(largest(), x...).e == api.OK && e == api.OK && len(l) == 4 && got.is(reasoned{e: api.ErrNone})
	}
	bad := func(x []int) bool {
		l, e := score.Points(largest(), x)
		return scoreOf(largest(), x...) == scored{e: api.ErrValues} && e == api.ErrValues && len(l) == 0 && reasonsOf(largest(), x...).is(reasoned{e: api.ErrValues})
	}
	for trait := range api.MaxTraits {
		for _, v := range []int{api.Missing, 0, 1, api.MaxValue} {
			x := []int{5, 5, 5, 5, 5}
			if x[trait] = v; !ok(x) {
				t.Error(x)
			}
		}
		for _, v := range odd(api.Missing, api.MaxValue) {
			x := []int{5, 5, 5, 5, 5}
			if x[trait] = v; !bad(x) {
				t.Error(x)
			}
		}
	}
	for _, x := range [][]int{nil, {}, {5, 5, 5, 5}, {5, 5, 5, 5, 5, 5}, slices.Repeat([]int{5}, 500)} {
		if !bad(x) {
			t.Error(x)
		}
	}
}

// P6.2: spans are one for each trait, of values of which none is missing, and not
// empty.
func TestWhatSpansAre(t *testing.T) {
	five := func() []api.Span { return slices.Repeat([]api.Span{span(3, 9)}, api.MaxTraits) }
	for trait := range api.MaxTraits {
		for _, s := range []api.Span{span(0, 0), span(0, api.MaxValue), span(api.MaxValue, api.MaxValue), span(7, 7)} {
			x := five()
			x[trait] = s
			if got, e := score.Between(largest(), x); e != api.OK || got == (api.Span{}) {
				t.Error(x, got, e)
			}
		}
		bad := []api.Span{span(1, 0), span(api.MaxValue, api.MaxValue-1), span(api.Missing, api.Missing)}
		for _, n := range odd(0, api.MaxValue) {
			bad = append(bad, span(n, n), span(n, 5), span(5, n))
		}
		for _, s := range bad {
			x := five()
			x[trait] = s
			if got, e := score.Between(largest(), x); e != api.ErrValues || got != (api.Span{}) {
				t.Error(x, got, e)
			}
		}
	}
	for _, x := range [][]api.Span{nil, {}, five()[:4], append(five(), span(1, 1))} {
		if got, e := score.Between(largest(), x); e != api.ErrValues || got != (api.Span{}) {
			t.Error(x, got, e)
		}
	}
}
