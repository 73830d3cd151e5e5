package ring_test

import (
	"maps"
	"slices"
	"testing"

	"goodname/api"
)

// turns are strengths at which rings may be others, and those beside them.
func (w world) turns() []int {
	in := map[int]bool{1: true, 2: true, api.MaxStrength: true}
	for _, row := range weightsAgain(w) {
		for _, n := range row {
			for s := max(n-1, 1); s <= n+1; s++ {
				in[s] = true
			}
		}
	}
	return slices.Sorted(maps.Keys(in))
}

// together tells whether two filings are in one of some groups.
func together(groups [][]int, a, b int) bool {
	return slices.ContainsFunc(groups, func(g []int) bool { return slices.Contains(g, a) && slices.Contains(g, b) })
}

// proves tells whether a chain is one from a to b, none of whose filings is there
// twice and each of whose ties weighs what it tells.
func (w world) proves(chain []api.Tie) bool {
	ids := []int{w.a}
	for _, x := range chain {
		if x.From != ids[len(ids)-1] || slices.Contains(ids, x.To) || x.Weight < 1 || w.about(x.From, x.To).weight() != (weight{x.Weight, api.OK}) {
			return false
		}
		ids = append(ids, x.To)
	}
	return ids[len(ids)-1] == w.b
}

func weakest(chain []api.Tie) int {
	n := api.MaxStrength
	for _, x := range chain {
		n = min(n, x.Weight)
	}
	return n
}

// P8.6: two filings are in one ring just if a chain of this strength ties them, and
// their group has enough filings. The chain proves it; their groups at one strength
// more prove that no other one is stronger.
func TestChainsProveRings(t *testing.T) {
	r := newRandom(6)
	var tiedOnes, apartOnes, small int
	for range 1500 {
		w := r.either(24)
		why := w.why()
		strength := 0
		if why.e == api.OK {
			strength = weakest(why.chain)
			if !w.proves(why.chain) {
				t.Fatal(w, why)
			}
			tiedOnes++
		} else if !same(why, told{e: api.ErrNone}) {
			t.Fatal(w, why)
		}
		if group := w.at(strength + 1).apart().group; slices.Contains(group, w.b) {
			t.Fatal("a stronger chain", w, why, group)
		}
		for _, s := range w.turns() {
			group, is := w.at(s).apart().group, together(w.at(s).rings().rings, w.a, w.b)
			if is != (strength >= s && len(group) >= w.h.Size) || slices.Contains(group, w.b) != (strength >= s) {
				t.Fatal(w, s, why, group)
			}
			switch {
			case strength < s:
				apartOnes++
			case !is:
				small++
			}
		}
	}
	if min(tiedOnes, apartOnes, small) < 300 {
		t.Error("too few are tied, apart, or too few for a ring", tiedOnes, apartOnes, small)
	}
}

// P8.6: chains are as strong there as back, and have as many filings.
func TestChainsBack(t *testing.T) {
	r := newRandom(7)
	for range 1000 {
		w := r.either(24)
		there, back := w.why(), w.about(w.b, w.a).why()
		if there.e != back.e || len(there.chain) != len(back.chain) || weakest(there.chain) != weakest(back.chain) {
			t.Fatal(w, there, back)
		}
	}
}

func within(inner, outer []int) bool {
	return !slices.ContainsFunc(inner, func(id int) bool { return !slices.Contains(outer, id) })
}

// P8.2: rings are in order, none has a filing of another one, and each one has
// enough.
func (r rung) fit(size int) bool {
	if r.e != api.OK {
		return false
	}
	seen := map[int]bool{}
	first := -1
	for _, g := range r.rings {
		if len(g) < size || g[0] <= first || !slices.IsSorted(g) {
			return false
		}
		first = g[0]
		for _, id := range g {
			if seen[id] {
				return false
			}
			seen[id] = true
		}
	}
	return true
}

// P8.7: at a greater strength each ring is a part of one at a lesser strength.
func TestNobodyComesIn(t *testing.T) {
	r := newRandom(8)
	parts := 0
	for range 600 {
		w := r.either(24)
		var before [][]int
		for i, s := range w.turns() {
			got := w.at(s).rings()
			if !got.fit(w.h.Size) {
				t.Fatal(w, s, got)
			}
			for _, g := range got.rings {
				if i > 0 && !slices.ContainsFunc(before, func(outer []int) bool { return within(g, outer) }) {
					t.Fatal(w, s, g, before)
				}
			}
			if i > 0 && len(got.rings) > 0 && !same(got.rings, before) {
				parts++
			}
			before = got.rings
		}
	}
	if parts < 200 {
		t.Error("too few rings have parts", parts)
	}
}

// P8.7: a group is the same down to one above what Apart tells, and has more
// filings at this one, if it is above 0. It is also as its filings tell it.
func TestGroupsUntilNext(t *testing.T) {
	r := newRandom(9)
	grown := 0
	for range 1500 {
		w := r.either(24)
		got := w.apart()
		if got.e != api.OK || !slices.Contains(got.group, w.a) || got.next >= w.strength || !slices.IsSorted(got.group) {
			t.Fatal(w, got)
		}
		for _, s := range []int{got.next + 1, got.next + 1 + (w.strength-got.next)/2} {
			if x := w.at(min(s, w.strength)).apart(); !same(x, got) {
				t.Fatal(w, s, got, x)
			}
		}
		for _, id := range got.group {
			if x := w.about(id, 0).apart(); !same(x, got) {
				t.Fatal(w, id, got, x)
			}
		}
		if got.next > 0 {
			x := w.at(got.next).apart()
			if len(x.group) <= len(got.group) || !within(got.group, x.group) {
				t.Fatal(w, got, x)
			}
			grown++
		}
	}
	if grown < 300 {
		t.Error("too few groups have more", grown)
	}
}

// alarms are how many are in rings, and how many of these are good, by what Rings
// tells.
func (w world) alarms() (caught, alarms int) {
	for _, id := range slices.Concat(w.rings().rings...) {
		caught++
		if slices.Contains(w.good, id) {
			alarms++
		}
	}
	return caught, alarms
}

// P8.8: at the strength that is told no more good filings are in rings than may be,
// at each lesser one there are more.
func TestFewerAlarmsNotByLess(t *testing.T) {
	r := newRandom(10)
	above := 0
	for range 800 {
		w := r.either(24)
		got := w.tune()
		if caught, alarms := w.at(got.strength).alarms(); got != (tuned{got.strength, caught, alarms, api.OK}) || alarms > w.most {
			t.Fatal(w, got, caught, alarms)
		}
		for _, s := range w.turns() {
			if _, alarms := w.at(s).alarms(); s < got.strength && alarms <= w.most {
				t.Fatal(w, got, s, alarms)
			}
		}
		if got.strength > 1 {
			above++
			if _, alarms := w.at(got.strength - 1).alarms(); alarms <= w.most {
				t.Fatal(w, got, alarms)
			}
		}
	}
	if above < 200 {
		t.Error("too few strengths are above 1", above)
	}
}

// P8.8: who may have more alarms needs no greater strength, and has no fewer that
// are caught.
func TestMoreAlarmsByLess(t *testing.T) {
	r := newRandom(11)
	for range 60 {
		w := r.either(24)
		before := tuned{strength: api.MaxStrength}
		for most := range api.MaxFilings + 1 {
			got := w.with(func(w *world) { w.most = most }).tune()
			if got.e != api.OK || got.strength > before.strength || got.caught < before.caught || got.alarms < before.alarms {
				t.Fatal(w, most, got, before)
			}
			before = got
		}
		if before.strength != 1 {
			t.Fatal(w, before)
		}
	}
}

// renumbered is a world whose parts and filings have other numbers.
func (w world) renumbered(part, id func(n int) int) world {
	each := func(l []int, number func(n int) int) []int {
		var out []int
		for _, n := range l {
			out = append(out, number(n))
		}
		slices.Sort(out)
		return out
	}
	var l []api.Filing
	for _, f := range w.l {
		l = append(l, filing(id(f.Id), f.Day, each(f.Parts, part)...))
	}
	w.l, w.good = l, each(w.good, id)
	return w.about(id(w.a), id(w.b))
}

// renumber renumbers what is answered.
func (a answers) renumber(id func(n int) int) answers {
	group := func(l []int) []int {
		var out []int
		for _, n := range l {
			out = append(out, id(n))
		}
		return out
	}
	a.apart.group = group(a.apart.group)
	a.rings.rings = slices.Clone(a.rings.rings)
	for i, g := range a.rings.rings {
		a.rings.rings[i] = group(g)
	}
	a.why.chain = slices.Clone(a.why.chain)
	for i, x := range a.why.chain {
		a.why.chain[i] = tie(id(x.From), id(x.To), x.Weight)
	}
	return a
}

func thesame(n int) int { return n }

// P8.9: if parts are numbered otherwise, in any order, or filings are, in the same
// order, all is told alike.
func TestNumbersAreNames(t *testing.T) {
	r := newRandom(12)
	for range 400 {
		w := r.either(24)
		mixed, step := r.Perm(1000), 1+r.Intn(20000)
		part := func(n int) int { return 999*mixed[n] + 7 }
		id := func(n int) int { return step*n + 3 }
		want := w.fine(t)
		if got := w.renumbered(part, thesame).ask(); !got.is(want) {
			t.Fatal("parts", w, got, want)
		}
		if got := w.renumbered(part, id).ask(); !got.is(want.renumber(id)) {
			t.Fatal("filings", w, got, want)
		}
	}
}

// P8.9: a filing that shares no part changes nothing for the others, wherever it is
// and whether it is good.
func TestFilingThatSharesNothing(t *testing.T) {
	r := newRandom(13)
	for range 400 {
		w := r.either(23).renumbered(thesame, func(n int) int { return 2*n + 1 })
		want := w.fine(t)
		at := r.Intn(len(w.l) + 1)
		id := api.MaxId
		if at < len(w.l) {
			id = w.l[at].Id - 1
		}
		alone := filing(id, r.Intn(30), []int{5000, 6000}[:r.Intn(3)]...)
		more := w.with(func(w *world) { w.l = slices.Insert(slices.Clone(w.l), at, alone) })
		if got := more.ask(); !got.is(want) {
			t.Fatal(w, more, got, want)
		}
		if r.Intn(2) == 0 {
			more.good = append(slices.Clone(w.good), id)
			slices.Sort(more.good)
			if got := more.tune(); got != want.tune {
				t.Fatal(w, more, got, want)
			}
		}
	}
}

// P8.9: with a wider Window no weight is less.
func TestWiderWindow(t *testing.T) {
	r := newRandom(14)
	more := 0
	for range 200 {
		w := r.world(2 + r.Intn(23))
		wider := w.with(func(w *world) { w.h.Window += 1 + r.Intn(20) })
		for i, a := range w.l {
			for _, b := range w.l[:i] {
				before, after := w.about(a.Id, b.Id).weight(), wider.about(a.Id, b.Id).weight()
				if after.e != api.OK || after.n < before.n {
					t.Fatal(w, a, b, before, after)
				}
				if after.n > before.n {
					more++
				}
			}
		}
	}
	if more < 200 {
		t.Error("too few weigh more", more)
	}
}
