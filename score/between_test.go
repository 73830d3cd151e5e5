package score_test

import (
	"slices"
	"testing"

	"goodname/api"
	"goodname/score"
)

// P6.2: the least and the greatest score are those of values in the spans, both
// ends of which count.
func TestBetween(t *testing.T) {
	for i, x := range []struct {
		a, b, want api.Span
	}{
		{span(12, 12), span(30, 30), span(64000, 64000)},
		{span(10, 19), span(0, 49), span(64000, 64000)},
		{span(9, 10), span(0, 0), span(49000, 64000)},
		{span(10, 20), span(0, 0), span(64000, 79000)},
		{span(0, 9), span(99, 100), span(-10000, 25000)},
		{span(0, 9), span(100, 200), span(-10000, -10000)},
		{span(20, api.MaxValue), span(50, 99), span(55000, 55000)},
		{span(0, api.MaxValue), span(0, api.MaxValue), span(-10000, 79000)},
		{span(0, api.MaxValue), span(49, 50), span(25000, 79000)},
	} {
		if got, e := score.Between(exampleModel(), []api.Span{x.a, x.b}); got != x.want || e != api.OK {
			t.Error(i, got, e)
		}
	}
}

// P6.2: cuts at the ends of what values may be.
func TestBetweenAtTheEnds(t *testing.T) {
	m := api.Model{Traits: 1, Cards: []api.Card{card(1, 0, scale(-50, 3, 1, -4, api.MaxValue, 9))}}
	for i, x := range []struct{ s, want api.Span }{
		{span(0, 0), span(3, 3)},
		{span(0, 1), span(-4, 3)},
		{span(1, api.MaxValue-1), span(-4, -4)},
		{span(1, api.MaxValue), span(-4, 9)},
		{span(api.MaxValue, api.MaxValue), span(9, 9)},
		{span(0, api.MaxValue), span(-4, 9)}, // Missing would say -50.
	} {
		if got, e := score.Between(m, []api.Span{x.s}); got != x.want || e != api.OK {
			t.Error(i, got, e)
		}
	}
}

// P6.2: a value is the same one for all cards and trees: what each of them says at
// most for it is not said together.
func TestBetweenOfOneValueForAll(t *testing.T) {
	m := api.Model{
		Traits: 2,
		Cards:  []api.Card{card(1000, 0, scale(0, 10, 5, 0), scale(0, 0)), card(1000, 0, scale(0, 0, 5, 10), scale(0, 0))},
		Trees:  []api.Tree{tree(1000, ask(0, 3, 1, 2), ask(1, 4, 3, 4), ask(0, 3, 5, 6), leaf(0), leaf(2), leaf(900), leaf(1))},
	}
	for i, x := range []struct{ a, b, want api.Span }{
		{span(0, 9), span(0, 9), span(10000, 12000)},
		{span(3, 9), span(0, 9), span(11000, 11000)},
		{span(0, 2), span(4, 9), span(12000, 12000)},
	} {
		if got, e := score.Between(m, []api.Span{x.a, x.b}); got != x.want || e != api.OK {
			t.Error(i, got, e)
		}
	}
}

// P6.2: a model that says nothing has just one score.
func TestBetweenOfNothing(t *testing.T) {
	for i, m := range []api.Model{{Traits: 1, Need: 7}, {Traits: 1, Cards: []api.Card{card(0, 5, scale(0, 1, 2, 3))}}} {
		if got, e := score.Between(m, []api.Span{span(0, 9)}); got != (api.Span{}) || e != api.OK {
			t.Error(i, got, e)
		}
	}
	if got, e := score.Between(api.Model{Traits: 1, Trees: []api.Tree{tree(1000, leaf(-6))}}, []api.Span{span(0, 9)}); got != span(-6000, -6000) || e != api.OK {
		t.Error(got, e)
	}
}

// P6.2: between of many models is what is the least and the greatest score of all
// values that are tried one by one.
func TestBetweenAgain(t *testing.T) {
	r := newRandom(2)
	for range 1500 {
		m := r.model(1 + r.Intn(3))
		x := r.spans(m.Traits)
		if got := ends(t, m, x); got != spanOf(m, x) {
			t.Fatal(m, x, got, spanOf(m, x))
		}
	}
	for range 10 {
		m := r.model(4 + r.Intn(2))
		x := r.spans(m.Traits)
		if got := ends(t, m, x); got != spanOf(m, x) {
			t.Fatal(m, x, got, spanOf(m, x))
		}
	}
}

// P6.2, R7: as many lists to try as there may be come to an end soon.
func TestBetweenOfLargest(t *testing.T) {
	all := slices.Repeat([]api.Span{span(0, api.MaxValue)}, api.MaxTraits)
	// Each card says its Base, and from 1 to 4 points for each trait, each tree 5 or
	// the number of it with the other sign.
	if got := ends(t, largest(), all); got != span(1000*(0+5+1+5+0-1), 1000*(0+20+1+20+5+5)) {
		t.Error(got)
	}
}
