package ring_test

import (
	"fmt"
	"math"
	"math/rand"
	"slices"
	"testing"

	"goodname/api"
	"goodname/ring"
)

func filing(id, day int, parts ...int) api.Filing {
	return api.Filing{Id: id, Day: day, Parts: parts}
}

func tie(from, to, weight int) api.Tie { return api.Tie{From: from, To: to, Weight: weight} }

// exampleHunt and exampleFilings are those of the chapter's examples.
func exampleHunt() api.Hunt { return api.Hunt{Window: 30, Common: 4, Size: 3} }

func exampleFilings() []api.Filing {
	return []api.Filing{
		filing(1, 10, 100, 200, 900), filing(2, 20, 100, 300, 900), filing(3, 25, 200, 300, 900),
		filing(4, 30, 300, 400, 500, 900), filing(5, 50, 500), filing(6, 99, 400, 900),
	}
}

// tied are two Ids of filings, and how many parts they alone have.
type tied struct{ a, b, parts int }

// of are filings of one day with Ids, of which just some share parts: each one of
// these weighs 1,000.
func of(ids []int, l ...tied) []api.Filing {
	var out []api.Filing
	for _, id := range ids {
		f := filing(id, 7)
		for i, x := range l {
			if id == x.a || id == x.b {
				for k := range x.parts {
					f.Parts = append(f.Parts, 10*i+k)
				}
			}
		}
		out = append(out, f)
	}
	return out
}

// weight, rung, told, apart and tuned are what functions answer.
type weight struct {
	n int
	e api.Errno
}

type rung struct {
	rings [][]int
	e     api.Errno
}

type told struct {
	chain []api.Tie
	e     api.Errno
}

type apart struct {
	group []int
	next  int
	e     api.Errno
}

type tuned struct {
	strength, caught, alarms int
	e                        api.Errno
}

// world is all that calls are about. Apart is asked for a.
type world struct {
	h        api.Hunt
	l        []api.Filing
	a, b     int
	strength int
	good     []int
	most     int
}

func (w world) check() api.Errno { return ring.Check(w.h, w.l) }

func (w world) weight() weight {
	n, e := ring.Weight(w.h, w.l, w.a, w.b)
	return weight{n, e}
}

func (w world) rings() rung {
	l, e := ring.Rings(w.h, w.l, w.strength)
	return rung{l, e}
}

func (w world) why() told {
	l, e := ring.Why(w.h, w.l, w.a, w.b)
	return told{l, e}
}

func (w world) apart() apart {
	group, next, e := ring.Apart(w.h, w.l, w.a, w.strength)
	return apart{group, next, e}
}

func (w world) tune() tuned {
	strength, caught, alarms, e := ring.Tune(w.h, w.l, w.good, w.most)
	return tuned{strength, caught, alarms, e}
}

// with returns a world that is changed. Lists of it are to be put, not written to.
func (w world) with(f func(w *world)) world {
	f(&w)
	return w
}

// about is a world that is asked about two other filings.
func (w world) about(a, b int) world {
	w.a, w.b = a, b
	return w
}

// at is a world that is asked about another strength.
func (w world) at(strength int) world {
	w.strength = strength
	return w
}

// answers are all that the functions answer.
type answers struct {
	check  api.Errno
	weight weight
	rings  rung
	why    told
	apart  apart
	tune   tuned
}

func (w world) ask() answers {
	return answers{w.check(), w.weight(), w.rings(), w.why(), w.apart(), w.tune()}
}

func (a answers) is(b answers) bool { return same(a, b) }

// all is an error that all functions answer.
func all(e api.Errno) answers {
	return answers{e, weight{e: e}, rung{e: e}, told{e: e}, apart{e: e}, tuned{e: e}}
}

// same compares by what is printed, where a nil list and an empty one are the
// same.
func same(a, b any) bool { return fmt.Sprint(a) == fmt.Sprint(b) }

// odd are numbers that are not what a field takes, of whatever size: some are
// valid ones in fewer bits.
func odd(lo, hi int) []int {
	return []int{lo - 1, hi + 1, math.MinInt, math.MaxInt, math.MinInt + 1, math.MaxInt - 1, 1<<48 + lo, -(1 << 48) + hi, -1 << 31, 1<<32 + hi}
}

func idsOf(l []api.Filing) []int {
	var out []int
	for _, f := range l {
		out = append(out, f.Id)
	}
	return out
}

// random makes filings of a few days that share parts.
type random struct{ *rand.Rand }

func newRandom(seed int64) random { return random{rand.New(rand.NewSource(seed))} }

func pick[T any](r random, l ...T) T { return l[r.Intn(len(l))] }

// some are n numbers below a bound, in order, none twice; but no more than there
// are.
func (r random) some(n, bound int) []int {
	l := r.Perm(bound)[:min(n, bound)]
	slices.Sort(l)
	return l
}

// filings are n ones whose parts are so many at the most, of which all together
// there are about as many as filings.
func (r random) filings(n, parts int) []api.Filing {
	var l []api.Filing
	for _, id := range r.some(n, 2*n) {
		l = append(l, filing(id, r.Intn(30), r.some(r.Intn(parts+1), n+parts/2)...))
	}
	return l
}

func (r random) hunt() api.Hunt {
	return api.Hunt{Window: pick(r, 5, 12, 20, 30, 30), Common: pick(r, 3, 4, 6, 9, 24, 24), Size: 2 + r.Intn(3)}
}

// world has n filings, and is asked about two of them.
func (r random) world(n int) world {
	w := world{h: r.hunt(), l: r.filings(n, pick(r, 2, 3, 4, 6, 6)), strength: 1 + r.Intn(pick(r, 300, 1000, 2500)), most: r.Intn(4)}
	two := r.Perm(n)[:2]
	w.a, w.b = w.l[two[0]].Id, w.l[two[1]].Id
	for _, f := range w.l {
		if r.Intn(3) == 0 {
			w.good = append(w.good, f.Id)
		}
	}
	return w
}

// web is a world of n filings of which pairs share parts that they alone have, so
// that long chains tie them, of which many are alike.
func (r random) web(n int) world {
	w := r.world(n)
	w.h = api.Hunt{Window: 30, Common: pick(r, 3, 24), Size: 2 + r.Intn(3)}
	ids, parts := idsOf(w.l), map[int]int{}
	var ties []tied
	for range n + r.Intn(n) {
		two := r.Perm(n)[:2]
		x := tied{ids[two[0]], ids[two[1]], pick(r, 1, 1, 1, 2, 3)}
		if parts[x.a]+x.parts > api.MaxParts || parts[x.b]+x.parts > api.MaxParts {
			continue
		}
		parts[x.a] += x.parts
		parts[x.b] += x.parts
		ties = append(ties, x)
	}
	w.l = of(ids, ties...)
	w.strength = pick(r, 1, 1000, 1001, 2000, 2001, 3000, 3001)
	return w
}

// either is a world of from 2 to most filings.
func (r random) either(most int) world {
	n := 2 + r.Intn(most-1)
	if r.Intn(2) == 0 {
		return r.web(n)
	}
	return r.world(n)
}

// fine calls all functions for a world of which all is valid, and returns what they
// answer. No chain may tie the two filings.
func (w world) fine(t *testing.T) answers {
	t.Helper()
	got := w.ask()
	if e := [...]api.Errno{got.check, got.weight.e, got.rings.e, got.apart.e, got.tune.e}; e != [5]api.Errno{} || got.why.e != api.OK && got.why.e != api.ErrNone {
		t.Fatal(w, e, got.why.e)
	}
	return got
}
