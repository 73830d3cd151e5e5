package score_test

import (
	"slices"
	"testing"

	"goodname/api"
	"goodname/score"
)

// said is the score of just one card or tree of a model.
func said(t *testing.T, m api.Model, x []int, i int) int {
	t.Helper()
	alone := api.Model{Traits: m.Traits}
	if i < len(m.Cards) {
		alone.Cards = m.Cards[i : i+1]
	} else {
		alone.Trees = m.Trees[i-len(m.Cards):][:1]
	}
	return number(t, alone, x)
}

// P6.4: a score is the sum of what each card and each tree says alone, times their
// weights.
func TestScoreIsSum(t *testing.T) {
	r := newRandom(4)
	for range 1500 {
		m := r.model(1 + r.Intn(api.MaxTraits))
		x := r.values(m.Traits)
		points, e := score.Points(m, x)
		if e != api.OK {
			t.Fatal(m, x, e)
		}
		parts, weighted := 0, 0
		for i, n := range points {
			weight := 0
			if i < len(m.Cards) {
				weight = m.Cards[i].Weight
			} else {
				weight = m.Trees[i-len(m.Cards)].Weight
			}
			parts += said(t, m, x, i)
			weighted += weight * n
		}
		if got := number(t, m, x); got != parts || got != weighted {
			t.Fatal(m, x, got, parts, weighted)
		}
	}
}

// P6.4: what a card says is the sum of what it says for each trait: if a value is
// another one, its points change by what is said for its trait, whatever the
// others are.
func TestCardIsSumOfTraits(t *testing.T) {
	r := newRandom(5)
	for range 1500 {
		m := r.model(2 + r.Intn(api.MaxTraits-1))
		m.Trees = nil
		trait, v, w := r.Intn(m.Traits), r.value(), r.value()
		step := func(x []int) int {
			a, b := slices.Clone(x), slices.Clone(x)
			a[trait], b[trait] = v, w
			return number(t, m, b) - number(t, m, a)
		}
		if x, y := r.values(m.Traits), r.values(m.Traits); step(x) != step(y) {
			t.Fatal(m, trait, v, w, x, y, step(x), step(y))
		}
	}
}

// cutsOf are all cuts of a trait in a model.
func cutsOf(m api.Model, trait int) []int {
	var l []int
	for _, c := range m.Cards {
		l = append(l, c.Scales[trait].Cuts...)
	}
	for _, t := range m.Trees {
		for _, n := range t.Nodes {
			if n.Trait == trait {
				l = append(l, n.Cut)
			}
		}
	}
	return l
}

// between tells whether two values are between the same cuts.
func between(cuts []int, v, w int) bool {
	return (v == api.Missing) == (w == api.Missing) && !slices.ContainsFunc(cuts, func(c int) bool { return (v < c) != (w < c) })
}

// P6.4: a score, its points and its answer are the same for all values between the
// same cuts, and so are its reasons.
func TestSameBetweenCuts(t *testing.T) {
	r := newRandom(6)
	moved := 0
	for range 1500 {
		m := r.model(1 + r.Intn(4))
		x := r.values(m.Traits)
		y := slices.Clone(x)
		for trait := range y {
			if v := pick(r, r.value(), r.Intn(api.MaxValue+1)); between(cutsOf(m, trait), x[trait], v) {
				y[trait] = v
			}
		}
		if !slices.Equal(x, y) {
			moved++
		}
		a, e1 := score.Points(m, x)
		b, e2 := score.Points(m, y)
		if e1 != api.OK || e2 != api.OK || !slices.Equal(a, b) || scoreOf(m, x...) != scoreOf(m, y...) || !reasonsOf(m, x...).is(reasonsOf(m, y...)) {
			t.Fatal(m, x, y)
		}
	}
	if moved < 800 {
		t.Error("too few values are others", moved)
	}
}

// P6.5: with the values that are told the answer is the other one, with those of
// fewer of these traits it is not; all of them are others than before; and with
// any other fewer traits, whatever their values, it is not.
func TestReasonsAreTrue(t *testing.T) {
	r := newRandom(7)
	several := 0
	for range 1200 {
		m := r.model(2 + r.Intn(2))
		x := r.values(m.Traits)
		m.Need = ends(t, m, slices.Repeat([]api.Span{span(0, api.MaxValue)}, m.Traits)).Hi/api.Whole - r.Intn(3)
		was, got := scoreOf(m, x...), reasonsOf(m, x...)
		if was.e != api.OK || got.e == api.ErrNone {
			continue
		}
		if got.e != api.OK || len(got.traits) == 0 || len(got.traits) != len(got.values) || !slices.IsSorted(got.traits) {
			t.Fatal(m, x, got)
		}
		for bits := range 1 << len(got.traits) {
			y := slices.Clone(x)
			for i, trait := range got.traits {
				if bits>>i&1 == 1 {
					y[trait] = got.values[i]
				}
			}
			full := bits == 1<<len(got.traits)-1
			if now := scoreOf(m, y...); now.e != api.OK || (now.yes != was.yes) != full {
				t.Fatal("not true, or not needed", m, x, got, y)
			}
		}
		for i, trait := range got.traits {
			if got.values[i] == x[trait] || got.values[i] < 0 || got.values[i] > api.MaxValue {
				t.Fatal(m, x, got)
			}
		}
		for _, fewer := range setsOf(m.Traits) {
			if values, ok := otherwise(m, x, fewer); ok && len(fewer) < len(got.traits) {
				t.Fatal("fewer are enough", m, x, got, fewer, values)
			}
		}
		if len(got.traits) > 1 {
			several++
		}
	}
	if several < 200 {
		t.Error("too few have several reasons", several)
	}
}

// P6.5: if there are no reasons, no values that are known change the answer.
func TestNoReasonsAreTrue(t *testing.T) {
	r := newRandom(8)
	none := 0
	for range 3000 {
		m := r.model(1 + r.Intn(api.MaxTraits))
		x := r.values(m.Traits)
		if reasonsOf(m, x...).e != api.ErrNone {
			continue
		}
		none++
		was := answerOf(m, x)
		for range 50 {
			y := slices.Clone(x)
			for trait := range y {
				if r.Intn(2) == 0 {
					y[trait] = r.Intn(api.MaxValue + 1)
				} else if v := r.value(); v != api.Missing {
					y[trait] = v
				}
			}
			if answerOf(m, y) != was {
				t.Fatal(m, x, y)
			}
		}
	}
	if none < 300 {
		t.Error("too few have no reasons", none)
	}
}

// P6.6: whatever the values are within their spans, the score is between both that
// are told, and both are reached.
func TestBetweenHoldsAll(t *testing.T) {
	r := newRandom(9)
	for range 800 {
		m := r.model(1 + r.Intn(3))
		spans := r.spans(m.Traits)
		all := ends(t, m, spans)
		for range 30 {
			var x []int
			for _, s := range spans {
				x = append(x, s.Lo+r.Intn(s.Hi-s.Lo+1))
			}
			if n := number(t, m, x); n < all.Lo || n > all.Hi {
				t.Fatal(m, spans, all, x, n)
			}
		}
		var low, high bool
		eachOf(gridOf(spans), func(x []int) bool {
			n := sumOf(m, x)
			low, high = low || n == all.Lo, high || n == all.Hi
			return low && high
		})
		if !low || !high {
			t.Fatal("not reached", m, spans, all)
		}
	}
}

// P6.6: what is known better is told no wider; what is known is told as it is.
func TestBetweenNarrows(t *testing.T) {
	r := newRandom(10)
	narrower := 0
	for range 800 {
		m := r.model(1 + r.Intn(api.MaxTraits))
		spans := slices.Repeat([]api.Span{span(0, api.MaxValue)}, m.Traits)
		all := ends(t, m, spans)
		for range 8 {
			i := r.Intn(m.Traits)
			a := spans[i].Lo + r.Intn(spans[i].Hi-spans[i].Lo+1)
			b := spans[i].Lo + r.Intn(spans[i].Hi-spans[i].Lo+1)
			spans[i] = span(min(a, b), max(a, b))
			now := ends(t, m, spans)
			if now.Lo < all.Lo || now.Hi > all.Hi || now.Lo > now.Hi {
				t.Fatal(m, spans, all, now)
			}
			if now != all {
				narrower++
			}
			all = now
		}
		var x []int
		for i := range spans {
			x = append(x, spans[i].Hi)
			spans[i].Lo = spans[i].Hi
		}
		if now, n := ends(t, m, spans), number(t, m, x); now != span(n, n) {
			t.Fatal(m, spans, now, n)
		}
	}
	if narrower < 500 {
		t.Error("too few are narrower", narrower)
	}
}

// spotsOfPoints are all numbers of a model that are points.
func spotsOfPoints(m *api.Model) []*int {
	var l []*int
	for i := range m.Cards {
		c := &m.Cards[i]
		l = append(l, &c.Base)
		for k := range c.Scales {
			l = append(l, &c.Scales[k].None)
			for j := range c.Scales[k].Points {
				l = append(l, &c.Scales[k].Points[j])
			}
		}
	}
	for i := range m.Trees {
		for k := range m.Trees[i].Nodes {
			if n := &m.Trees[i].Nodes[k]; n.Trait == api.Leaf {
				l = append(l, &n.Points)
			}
		}
	}
	return l
}

// P6.7: with more points for something no score is less, nor is one of Between, and
// no answer that was yes is no.
func TestMorePoints(t *testing.T) {
	r := newRandom(11)
	grown := 0
	for range 1500 {
		m := r.model(1 + r.Intn(3))
		more := with(m, func(m *api.Model) {
			l := spotsOfPoints(m)
			for range r.Intn(4) {
				if len(l) > 0 {
					*pick(r, l...) += r.Intn(30)
				}
			}
		})
		for range 20 {
			x := r.values(m.Traits)
			a, b := scoreOf(m, x...), scoreOf(more, x...)
			if a.e != api.OK || b.e != api.OK || b.score < a.score || a.yes && !b.yes {
				t.Fatal(m, more, x, a, b)
			}
			if b.score > a.score {
				grown++
			}
		}
		spans := r.spans(m.Traits)
		if a, b := ends(t, m, spans), ends(t, more, spans); b.Lo < a.Lo || b.Hi < a.Hi {
			t.Fatal(m, more, spans, a, b)
		}
	}
	if grown < 1000 {
		t.Error("too few scores are more", grown)
	}
}

// P6.7: with a greater Need no answer that was no is yes, and the score is the
// same.
func TestGreaterNeed(t *testing.T) {
	r := newRandom(12)
	changed := 0
	for range 1500 {
		m := r.model(1 + r.Intn(api.MaxTraits))
		more := with(m, func(m *api.Model) { m.Need += r.Intn(9) })
		for range 20 {
			x := r.values(m.Traits)
			a, b := scoreOf(m, x...), scoreOf(more, x...)
			if a.e != api.OK || b.e != api.OK || a.score != b.score || !a.yes && b.yes {
				t.Fatal(m, more, x, a, b)
			}
			if a.yes && !b.yes {
				changed++
			}
		}
	}
	if changed < 500 {
		t.Error("too few answers are others", changed)
	}
}

// P6.7: a card or a tree with the Weight 0 changes nothing.
func TestWeightNothing(t *testing.T) {
	r := newRandom(13)
	added := 0
	for range 1500 {
		m := r.model(1 + r.Intn(4))
		more := with(m, func(m *api.Model) {
			if len(m.Cards) < api.MaxCards {
				c := card(0, r.points())
				for range m.Traits {
					c.Scales = append(c.Scales, r.scale())
				}
				m.Cards = append(m.Cards, c)
				added++
			}
			if len(m.Trees) < api.MaxTrees {
				x := r.tree(m.Traits)
				x.Weight = 0
				m.Trees = slices.Insert(m.Trees, r.Intn(len(m.Trees)+1), x)
				added++
			}
		})
		x, spans := r.values(m.Traits), r.spans(m.Traits)
		if scoreOf(m, x...) != scoreOf(more, x...) || ends(t, m, spans) != ends(t, more, spans) || !reasonsOf(m, x...).is(reasonsOf(more, x...)) {
			t.Fatal(m, more, x, spans)
		}
	}
	if added < 1000 {
		t.Error("too few are added", added)
	}
}
