package score_test

import (
	"slices"
	"testing"

	"goodname/api"
	"goodname/score"
)

// P6.1: a scale says the point whose index is the number of cuts that are at most
// the value, and None if it is missing.
func TestPointsOfScales(t *testing.T) {
	for i, x := range []struct {
		s       api.Scale
		v, want int
	}{
		{scale(-7, 1, 10, 2, 20, 4, 30, 8), 0, 1},
		{scale(-7, 1, 10, 2, 20, 4, 30, 8), 9, 1},
		{scale(-7, 1, 10, 2, 20, 4, 30, 8), 10, 2},
		{scale(-7, 1, 10, 2, 20, 4, 30, 8), 19, 2},
		{scale(-7, 1, 10, 2, 20, 4, 30, 8), 20, 4},
		{scale(-7, 1, 10, 2, 20, 4, 30, 8), 30, 8},
		{scale(-7, 1, 10, 2, 20, 4, 30, 8), api.MaxValue, 8},
		{scale(-7, 1, 10, 2, 20, 4, 30, 8), api.Missing, -7},
		{scale(-7, 1, 1, 2), 0, 1},
		{scale(-7, 1, 1, 2), 1, 2},
		{scale(-7, 1, api.MaxValue, 2), api.MaxValue - 1, 1},
		{scale(-7, 1, api.MaxValue, 2), api.MaxValue, 2},
		{scale(-7, 1), 0, 1},
		{scale(-7, 1), api.MaxValue, 1},
		{scale(-7, 1), api.Missing, -7},
	} {
		m := api.Model{Traits: 1, Cards: []api.Card{card(3, 100, x.s)}}
		if l, e := score.Points(m, []int{x.v}); e != api.OK || !slices.Equal(l, []int{100 + x.want}) {
			t.Error(i, l, e)
		}
		if got := scoreOf(m, x.v); got != (scored{3 * (100 + x.want), true, api.OK}) {
			t.Error(i, got)
		}
	}
}

// forked is a model with one tree in which two nodes lead to a third one, and one
// is not reached.
func forked() api.Model {
	return api.Model{Traits: 2, Trees: []api.Tree{tree(10, ask(0, 10, 2, 1), ask(1, 20, 3, 5), ask(0, 5, 6, 3), ask(1, 7, 5, 6), leaf(1000), leaf(40), leaf(-60))}}
}

// P6.1: from a node one goes on with Low if the value is less than the cut or
// missing, and with High otherwise, until a leaf.
func TestPointsOfTrees(t *testing.T) {
	for i, x := range []struct{ a, b, want int }{
		{4, 0, -60}, {0, 999, -60}, {5, 6, 40}, {9, 7, -60}, {10, 20, 40}, {10, 19, -60}, {api.MaxValue, 6, 40},
		{api.Missing, 6, -60}, {9, api.Missing, 40}, {10, api.Missing, 40}, {10, api.MaxValue, 40},
	} {
		l, e := score.Points(forked(), []int{x.a, x.b})
		if e != api.OK || !slices.Equal(l, []int{x.want}) || scoreOf(forked(), x.a, x.b) != (scored{10 * x.want, x.want > 0, api.OK}) {
			t.Error(i, x, l, e)
		}
	}
}

// P6.1: the points of the cards come first, then those of the trees, all without
// their weights; the score counts the weights.
func TestPointsAndWeights(t *testing.T) {
	m := with(exampleModel(), func(m *api.Model) {
		m.Cards = append(m.Cards, card(0, 7, scale(0, 1), scale(0, 2)))
		m.Trees = append(m.Trees, tree(1, leaf(-9)))
	})
	if l, e := score.Points(m, []int{12, 30}); e != api.OK || !slices.Equal(l, []int{60, 10, 8, -9}) {
		t.Error(l, e)
	}
	if got := scoreOf(m, 12, 30); got != (scored{64000 - 9, true, api.OK}) {
		t.Error(got)
	}
	if l, e := score.Points(api.Model{Traits: 2}, []int{1, 2}); e != api.OK || len(l) > 0 {
		t.Error(l, e)
	}
}

// P6.1: the answer is yes from Need times Whole on.
func TestJustEnough(t *testing.T) {
	for i, x := range []struct {
		points, weight, need int
		yes                  bool
	}{
		{8, 1000, 8, true}, {8, 999, 8, false}, {7, 1000, 8, false}, {9, 889, 8, true}, {9, 888, 8, false},
		{0, 1000, 0, true}, {-1, 1, 0, false}, {-1, 0, 0, true}, {-8, 1000, -8, true}, {-9, 1000, -8, false}, {0, 0, 1, false},
		{api.MaxPoints, 1000, api.MaxPoints, true}, {api.MaxPoints, 999, api.MaxPoints, false}, {-api.MaxPoints, 1000, -api.MaxPoints, true},
	} {
		m := api.Model{Traits: 1, Need: x.need, Trees: []api.Tree{tree(x.weight, leaf(x.points))}}
		if got := scoreOf(m, 3); got != (scored{x.points * x.weight, x.yes, api.OK}) {
			t.Error(i, got)
		}
	}
}

// extreme is a model of which everything says as many points as it may, times a
// sign, for values up to 4, and as many of the other sign from 5 on.
func extreme(sign int) api.Model {
	top := sign * api.MaxPoints
	m := api.Model{Traits: api.MaxTraits}
	for range api.MaxCards {
		s := scale(top, top, 5, -top)
		m.Cards = append(m.Cards, card(api.MaxWeight, top, s, s, s, s, s))
	}
	for range api.MaxTrees {
		m.Trees = append(m.Trees, tree(api.MaxWeight, ask(0, 5, 1, 2), leaf(top), leaf(-top)))
	}
	return m
}

// P6.1, R5: the greatest sums are exact, of each sign.
func TestGreatestScores(t *testing.T) {
	for _, sign := range []int{-1, 1} {
		m := extreme(sign)
		if got := scoreOf(m, api.Missing, 4, 0, 4, api.Missing); got != (scored{sign * 14000000000, sign == 1, api.OK}) {
			t.Error(got)
		}
		if got := scoreOf(m, 5, 5, 5, 5, 5); got != (scored{sign * -10000000000, sign == -1, api.OK}) {
			t.Error(got)
		}
		l, e := score.Points(m, []int{0, 0, 0, 0, 0})
		if top := sign * api.MaxPoints; e != api.OK || !slices.Equal(l, []int{6 * top, 6 * top, top, top}) {
			t.Error(l, e)
		}
		all := slices.Repeat([]api.Span{span(0, api.MaxValue)}, api.MaxTraits)
		if got, e := score.Between(m, all); e != api.OK || got != span(min(sign*14000000000, sign*-10000000000), max(sign*14000000000, sign*-10000000000)) {
			t.Error(got, e)
		}
	}
}

// P6.1: scores, answers and points of many models are as the chapter defines them.
func TestScoresAgain(t *testing.T) {
	r := newRandom(1)
	var yes int
	for range 4000 {
		m := r.model(1 + r.Intn(api.MaxTraits))
		for range 10 {
			x := r.values(m.Traits)
			got := scoreOf(m, x...)
			if got != (scored{sumOf(m, x), answerOf(m, x), api.OK}) {
				t.Fatal(m, x, got)
			}
			if got.yes {
				yes++
			}
			if l, e := score.Points(m, x); e != api.OK || !slices.Equal(l, pointsOf(m, x)) {
				t.Fatal(m, x, l, e)
			}
		}
	}
	if yes < 8000 || yes > 32000 {
		t.Error("too many answers are the same", yes)
	}
}
