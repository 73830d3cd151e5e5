package score

import (
	"cmp"
	"slices"

	"goodname/api"
)

// model is a model at work.
type model struct {
	api.Model
	shares []share // of each card, and then of each tree
}

// share is a card or a tree: parts whose points count together, by a weight.
type share struct {
	weight, base int
	parts        []part
}

// open returns a model at work.
func open(m api.Model) (model, api.Errno) {
	if e := Check(m); e != api.OK {
		return model{}, e
	}
	w := model{Model: m}
	for _, c := range m.Cards {
		w.shares = append(w.shares, shareOf(c))
	}
	for _, t := range m.Trees {
		w.shares = append(w.shares, share{weight: t.Weight, parts: []part{tree{t}}})
	}
	return w, api.OK
}

// openFor returns a model at work, if there are values for it.
func openFor(m api.Model, x []int) (model, api.Errno) {
	w, e := open(m)
	if e != api.OK {
		return model{}, e
	}
	if !w.valuesValid(x) {
		return model{}, api.ErrValues
	}
	return w, api.OK
}

func shareOf(c api.Card) share {
	s := share{weight: c.Weight, base: c.Base}
	for trait, x := range c.Scales {
		s.parts = append(s.parts, scale{x, trait})
	}
	return s
}

func (s share) points(x []int) int {
	sum := s.base
	for _, p := range s.parts {
		sum += p.points(x)
	}
	return sum
}

// points returns the points of each share, without its weight.
func (m model) points(x []int) []int {
	var l []int
	for _, s := range m.shares {
		l = append(l, s.points(x))
	}
	return l
}

func (m model) score(x []int) int {
	sum := 0
	for _, s := range m.shares {
		sum += s.weight * s.points(x)
	}
	return sum
}

// yes tells whether a score is enough.
func (m model) yes(score int) bool { return score >= m.Need*api.Whole }

// cuts returns the cuts of each trait.
func (m model) cuts() [][]int {
	out := make([][]int, m.Traits)
	for trait := range out {
		var l []int
		for _, s := range m.shares {
			for _, p := range s.parts {
				l = append(l, cutsOf(p, trait)...)
			}
		}
		out[trait] = ascending(l)
	}
	return out
}

// ascending returns what is in a list, in order, and each only once.
func ascending[T cmp.Ordered](l []T) []T {
	return slices.Compact(slices.Sorted(slices.Values(l)))
}
