package ring

import (
	"slices"

	"goodname/api"
)

// noChain is what is passed on by a panic if no chain ties two filings.
type noChain struct{}

// why returns the chain that ties two filings most, or ErrNone if there is none.
func (w *hunt) why(from, to int) (chain []api.Tie, e api.Errno) {
	defer func() {
		if _, ok := recover().(noChain); ok {
			e = api.ErrNone
		}
	}()
	return w.ties(w.chain(from, to, w.strongest(from, to))), api.OK
}

// strongest returns the strength of the strongest chains between two filings: one
// below the least strength at which they are in two groups.
func (w *hunt) strongest(from, to int) int {
	n := first(w.turns(), func(strength int) bool {
		return !slices.Contains(w.group(from, strength), to)
	})
	if n == 1 {
		panic(noChain{})
	}
	return n - 1
}

// chain returns the first one of the chains with the fewest filings between two
// that are in one group at a strength. As chains are made longer in their order,
// and by lesser filings first, the first one to reach a filing is the one that is
// asked for.
func (w *hunt) chain(from, to, strength int) []int {
	left := w.all()
	delete(left, from)
	chains := [][]int{{from}}
	var found []int
search:
	for len(chains) > 0 {
		c := chains[0]
		chains = chains[1:]
		for next := range len(w.ids) {
			if !left[next] || !w.tied(c[len(c)-1], next, strength) {
				continue
			}
			longer := append(slices.Clone(c), next)
			if next == to {
				found = longer
				break search
			}
			delete(left, next)
			chains = append(chains, longer)
		}
	}
	return found
}

// ties returns a chain as ties.
func (w *hunt) ties(chain []int) []api.Tie {
	var out []api.Tie
	for i := range len(chain) - 1 {
		from, to := chain[i], chain[i+1]
		out = append(out, api.Tie{From: w.ids[from], To: w.ids[to], Weight: w.weights[from][to]})
	}
	return out
}
