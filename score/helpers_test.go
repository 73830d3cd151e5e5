package score_test

import (
	"math"
	"math/rand"
	"slices"
	"testing"

	"goodname/api"
	"goodname/score"
)

func span(lo, hi int) api.Span { return api.Span{Lo: lo, Hi: hi} }

// scale is one with its None first, and the cuts between the points.
func scale(none, first int, cutsAndPoints ...int) api.Scale {
	s := api.Scale{None: none, Points: []int{first}}
	for i := 0; i < len(cutsAndPoints); i += 2 {
		s.Cuts = append(s.Cuts, cutsAndPoints[i])
		s.Points = append(s.Points, cutsAndPoints[i+1])
	}
	return s
}

func card(weight, base int, scales ...api.Scale) api.Card {
	return api.Card{Weight: weight, Base: base, Scales: scales}
}

func leaf(points int) api.Node { return api.Node{Trait: api.Leaf, Points: points} }

func ask(trait, cut, low, high int) api.Node {
	return api.Node{Trait: trait, Cut: cut, Low: low, High: high}
}

func tree(weight int, nodes ...api.Node) api.Tree { return api.Tree{Weight: weight, Nodes: nodes} }

// exampleModel is the one of the chapter's examples.
func exampleModel() api.Model {
	return api.Model{
		Traits: 2,
		Need:   50,
		Cards:  []api.Card{card(1000, 20, scale(5, 0, 10, 15, 20, 30), scale(0, 25, 100, -10))},
		Trees:  []api.Tree{tree(500, ask(1, 50, 1, 2), leaf(8), leaf(-40))},
	}
}

// largest is a model with as much of everything as there may be, whose scales and
// trees have all different cuts: there are as many lists to try as can be.
func largest() api.Model {
	m := api.Model{Traits: api.MaxTraits}
	for i := range api.MaxCards {
		c := card(api.MaxWeight, i)
		for trait := range m.Traits {
			cut := 100*i + 10*trait
			c.Scales = append(c.Scales, scale(trait, 1, cut+1, 2, cut+2, 3, cut+3, 4))
		}
		m.Cards = append(m.Cards, c)
	}
	for i := range api.MaxTrees {
		t := tree(api.MaxWeight)
		for trait := range m.Traits {
			t.Nodes = append(t.Nodes, ask(trait, 1000+10*trait+i, trait+1, trait+2))
		}
		t.Nodes = append(t.Nodes, leaf(-i), leaf(5))
		m.Trees = append(m.Trees, t)
	}
	return m
}

// with returns a model that is changed.
func with(m api.Model, f func(m *api.Model)) api.Model {
	m = copied(m)
	f(&m)
	return m
}

// copied is a model that shares no memory with the other one, and hides nothing
// behind the last elements of its lists.
func copied(m api.Model) api.Model {
	m.Cards = slices.Clip(slices.Clone(m.Cards))
	for i, c := range m.Cards {
		c.Scales = slices.Clip(slices.Clone(c.Scales))
		for k, s := range c.Scales {
			c.Scales[k].Cuts, c.Scales[k].Points = slices.Clip(slices.Clone(s.Cuts)), slices.Clip(slices.Clone(s.Points))
		}
		m.Cards[i] = c
	}
	m.Trees = slices.Clip(slices.Clone(m.Trees))
	for i, t := range m.Trees {
		m.Trees[i].Nodes = slices.Clip(slices.Clone(t.Nodes))
	}
	return m
}

// scored is what Score answers, and reasoned what Reasons does.
type scored struct {
	score int
	yes   bool
	e     api.Errno
}

type reasoned struct {
	traits, values []int
	e              api.Errno
}

func (a reasoned) is(b reasoned) bool {
	return slices.Equal(a.traits, b.traits) && slices.Equal(a.values, b.values) && a.e == b.e
}

func scoreOf(m api.Model, x ...int) scored {
	n, yes, e := score.Score(m, x)
	return scored{n, yes, e}
}

func reasonsOf(m api.Model, x ...int) reasoned {
	traits, values, e := score.Reasons(m, x)
	return reasoned{traits, values, e}
}

// number is a score of values that are valid.
func number(t *testing.T, m api.Model, x []int) int {
	t.Helper()
	got := scoreOf(m, x...)
	if got.e != api.OK {
		t.Fatal(m, x, got)
	}
	return got.score
}

// ends are the least and the greatest score of spans that are valid.
func ends(t *testing.T, m api.Model, x []api.Span) api.Span {
	t.Helper()
	got, e := score.Between(m, x)
	if e != api.OK {
		t.Fatal(m, x, e)
	}
	return got
}

// odd are numbers that are not what a field takes, of whatever size: some are
// valid ones in fewer bits.
func odd(lo, hi int) []int {
	return []int{lo - 1, hi + 1, math.MinInt, math.MaxInt, math.MinInt + 1, math.MaxInt - 1, 1<<48 + lo, -(1 << 48) + hi, -1 << 31, 1<<32 + hi, 1<<16 + lo + 1<<40}
}

// random makes models and values for them.
type random struct{ *rand.Rand }

func newRandom(seed int64) random { return random{rand.New(rand.NewSource(seed))} }

func pick[T any](r random, l ...T) T { return l[r.Intn(len(l))] }

// spots are where cuts of random models may be, and grid is all values that have
// to be tried for them, and some beside these.
func spots() []int { return []int{1, 2, 7, 500000, api.MaxValue} }

func grid() []int {
	return []int{0, 1, 2, 3, 6, 7, 8, 499999, 500000, 500001, 999999, api.MaxValue}
}

// value is one of the grid, or Missing.
func (r random) value() int {
	if r.Intn(5) == 0 {
		return api.Missing
	}
	return pick(r, grid()...)
}

func (r random) values(traits int) []int {
	var x []int
	for range traits {
		x = append(x, r.value())
	}
	return x
}

// spans have values of the grid as ends.
func (r random) spans(traits int) []api.Span {
	var x []api.Span
	for range traits {
		a, b := pick(r, grid()...), pick(r, grid()...)
		x = append(x, span(min(a, b), max(a, b)))
	}
	return x
}

func (r random) points() int { return r.Intn(41) - 20 }
func (r random) weight() int { return pick(r, 0, 1, 250, 999, 1000, 1000, 1000) }

func (r random) scale() api.Scale {
	cuts := spots()
	for n := r.Intn(api.MaxCuts + 1); len(cuts) > n; {
		i := r.Intn(len(cuts))
		cuts = slices.Delete(cuts, i, i+1)
	}
	s := api.Scale{Cuts: cuts, None: r.points()}
	for range len(cuts) + 1 {
		s.Points = append(s.Points, r.points())
	}
	return s
}

// tree is one in which also two nodes may lead to a third one, and some are never
// reached.
func (r random) tree(traits int) api.Tree {
	t := tree(r.weight())
	n := 1 + r.Intn(api.MaxNodes)
	for i := range n {
		if left := n - i - 1; left >= 2 && r.Intn(5) > 0 {
			ways := r.Perm(left)
			t.Nodes = append(t.Nodes, ask(r.Intn(traits), pick(r, spots()...), i+1+ways[0], i+1+ways[1]))
		} else {
			t.Nodes = append(t.Nodes, leaf(r.points()))
		}
	}
	return t
}

// model is one whose Need is about what some values are scored.
func (r random) model(traits int) api.Model {
	m := api.Model{Traits: traits}
	for range r.Intn(api.MaxCards + 1) {
		c := card(r.weight(), r.points())
		for range traits {
			c.Scales = append(c.Scales, r.scale())
		}
		m.Cards = append(m.Cards, c)
	}
	for range r.Intn(api.MaxTrees + 1) {
		m.Trees = append(m.Trees, r.tree(traits))
	}
	m.Need = sumOf(m, r.values(traits))/api.Whole + r.Intn(5) - 2
	return m
}
