package ring_test

import (
	"cmp"
	"slices"

	"goodname/api"
)

// What follows tells again, as directly as can be, what the chapter defines.
// Filings are told by where they are in the list.

func having(l []api.Filing, part int) int {
	n := 0
	for _, f := range l {
		if slices.Contains(f.Parts, part) {
			n++
		}
	}
	return n
}

func weightAgain(w world, a, b api.Filing) int {
	if a.Day > b.Day+w.h.Window || b.Day > a.Day+w.h.Window {
		return 0
	}
	sum := 0
	for _, part := range a.Parts {
		if n := having(w.l, part); slices.Contains(b.Parts, part) && n >= 2 && n < w.h.Common {
			sum += 1000 / (n - 1)
		}
	}
	return sum
}

// weightsAgain are the weights of all pairs; a filing and itself are no pair.
func weightsAgain(w world) [][]int {
	out := make([][]int, len(w.l))
	for i, a := range w.l {
		for k, b := range w.l {
			n := 0
			if i != k {
				n = weightAgain(w, a, b)
			}
			out[i] = append(out[i], n)
		}
	}
	return out
}

// groupAgain takes in who is tied to one of the group until nobody is.
func groupAgain(weights [][]int, of, strength int) []int {
	in := make([]bool, len(weights))
	in[of] = true
	for more := true; more; {
		more = false
		for i := range weights {
			for k, n := range weights[i] {
				if in[i] && !in[k] && n >= strength {
					in[k], more = true, true
				}
			}
		}
	}
	var out []int
	for i := range in {
		if in[i] {
			out = append(out, i)
		}
	}
	return out
}

func (w world) idsAt(places []int) []int {
	var out []int
	for _, i := range places {
		out = append(out, w.l[i].Id)
	}
	return out
}

func ringsAgain(w world, weights [][]int, strength int) [][]int {
	var out [][]int
	for i := range w.l {
		g := w.idsAt(groupAgain(weights, i, strength))
		if g[0] == w.l[i].Id && len(g) >= w.h.Size {
			out = append(out, g)
		}
	}
	return out
}

func apartAgain(w world) apart {
	weights := weightsAgain(w)
	at := slices.Index(idsOf(w.l), w.a)
	group := groupAgain(weights, at, w.strength)
	next := 0
	for _, i := range group {
		for k := range w.l {
			if !slices.Contains(group, k) {
				next = max(next, weights[i][k])
			}
		}
	}
	return apart{w.idsAt(group), next, api.OK}
}

// chainsAgain are all chains that begin with one, until the filing to, each one
// with all filings in it.
func chainsAgain(weights [][]int, chain []int, to int) [][]int {
	last := chain[len(chain)-1]
	if last == to {
		return [][]int{chain}
	}
	var out [][]int
	for next, n := range weights[last] {
		if n >= 1 && !slices.Contains(chain, next) {
			out = append(out, chainsAgain(weights, append(slices.Clone(chain), next), to)...)
		}
	}
	return out
}

func strengthOf(weights [][]int, chain []int) int {
	least := 6001
	for i := 1; i < len(chain); i++ {
		least = min(least, weights[chain[i-1]][chain[i]])
	}
	return least
}

// whyAgain tries all chains: the stronger ones come first, then those with fewer
// filings, and then those with lesser ones.
func whyAgain(w world) told {
	weights := weightsAgain(w)
	from, to := slices.Index(idsOf(w.l), w.a), slices.Index(idsOf(w.l), w.b)
	chains := chainsAgain(weights, []int{from}, to)
	if len(chains) == 0 {
		return told{e: api.ErrNone}
	}
	best := slices.MinFunc(chains, func(a, b []int) int {
		return cmp.Or(cmp.Compare(strengthOf(weights, b), strengthOf(weights, a)), cmp.Compare(len(a), len(b)), slices.Compare(a, b))
	})
	var out told
	for i := 1; i < len(best); i++ {
		a, b := best[i-1], best[i]
		out.chain = append(out.chain, tie(w.l[a].Id, w.l[b].Id, weights[a][b]))
	}
	return out
}

// caughtAgain are how many are in rings at a strength, and how many of these are
// good.
func caughtAgain(w world, weights [][]int, strength int) (caught, alarms int) {
	for _, g := range ringsAgain(w, weights, strength) {
		for _, id := range g {
			caught++
			if slices.Contains(w.good, id) {
				alarms++
			}
		}
	}
	return caught, alarms
}

// tuneAgain tries all strengths.
func tuneAgain(w world) tuned {
	weights := weightsAgain(w)
	for strength := 1; strength <= 6001; strength++ {
		if caught, alarms := caughtAgain(w, weights, strength); alarms <= w.most {
			return tuned{strength, caught, alarms, api.OK}
		}
	}
	panic("no strength")
}
