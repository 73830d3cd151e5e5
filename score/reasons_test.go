package score_test

import (
	"slices"
	"testing"

	"goodname/api"
)

// one is a model with one card, whose scales say 0 below the cut and the points
// from it on, and -1 if a value is missing.
func one(need int, cutsAndPoints ...int) api.Model {
	m := api.Model{Need: need, Cards: []api.Card{card(1000, 0)}}
	for i := 0; i < len(cutsAndPoints); i += 2 {
		m.Cards[0].Scales = append(m.Cards[0].Scales, scale(-1, 0, cutsAndPoints[i], cutsAndPoints[i+1]))
		m.Traits++
	}
	return m
}

func because(traits, values []int) reasoned { return reasoned{traits, values, api.OK} }

// P6.3: the fewest traits come before all others; of as many, the first ones.
func TestFewestTraits(t *testing.T) {
	for i, x := range []struct {
		m    api.Model
		x    []int
		want reasoned
	}{
		{one(5, 10, 5, 10, 5, 10, 5), []int{0, 0, 0}, because([]int{0}, []int{10})},
		{one(5, 10, 4, 10, 5, 10, 5), []int{0, 0, 0}, because([]int{1}, []int{10})},
		{one(5, 10, 4, 10, 4, 10, 5), []int{0, 0, 0}, because([]int{2}, []int{10})}, // not 0 and 1, though these are first
		{one(5, 10, 3, 10, 3, 10, 3), []int{0, 0, 0}, because([]int{0, 1}, []int{10, 10})},
		{one(5, 10, 2, 10, 2, 10, 3), []int{0, 0, 0}, because([]int{0, 2}, []int{10, 10})},
		{one(5, 10, 1, 10, 3, 10, 2), []int{0, 0, 0}, because([]int{1, 2}, []int{10, 10})},
		{one(5, 10, 1, 10, 2, 10, 2), []int{0, 0, 0}, because([]int{0, 1, 2}, []int{10, 10, 10})},
		{one(5, 10, 1, 10, 4, 10, 1, 10, 4), []int{0, 0, 0, 0}, because([]int{0, 1}, []int{10, 10})},
		{one(5, 10, 1, 10, 1, 10, 4, 10, 4), []int{0, 0, 0, 0}, because([]int{0, 2}, []int{10, 10})},
		{one(5, 10, 0, 10, 1, 10, 4, 10, 4), []int{0, 0, 0, 0}, because([]int{1, 2}, []int{10, 10})},
		{one(5, 10, 3, 10, 0, 10, 0, 10, 2), []int{0, 0, 0, 0}, because([]int{0, 3}, []int{10, 10})},
		{one(5, 10, 1, 10, 2, 10, 2, 10, 2, 10, 2), []int{0, 0, 0, 0, 0}, because([]int{0, 1, 2}, []int{10, 10, 10})},
		{one(6, 10, 1, 10, 2, 10, 2, 10, 2, 10, 2), []int{0, 0, 0, 0, 0}, because([]int{1, 2, 3}, []int{10, 10, 10})},
		// What is so already is not to be changed.
		{one(5, 10, 3, 10, 3, 10, 3), []int{0, 50, 0}, because([]int{0}, []int{10})},
		{one(5, 10, 3, 10, 3, 10, 3), []int{50, 0, 0}, because([]int{1}, []int{10})},
	} {
		if got := reasonsOf(x.m, x.x...); !got.is(x.want) {
			t.Error(i, got)
		}
	}
}

// P6.3: of the values for a list of traits the first ones are told: the first
// number that differs is less.
func TestFirstValues(t *testing.T) {
	steps := scale(0, 0, 10, 1, 20, 2, 30, 3)
	m := api.Model{Traits: 2, Need: 4, Cards: []api.Card{card(1000, 0, steps, steps)}}
	for i, x := range []struct {
		need int
		x    []int
		want reasoned
	}{
		{1, []int{5, 5}, because([]int{0}, []int{10})},
		{2, []int{5, 5}, because([]int{0}, []int{20})},
		{3, []int{5, 5}, because([]int{0}, []int{30})},
		{4, []int{5, 5}, because([]int{0, 1}, []int{10, 30})},
		{5, []int{5, 5}, because([]int{0, 1}, []int{20, 30})},
		{6, []int{5, 5}, because([]int{0, 1}, []int{30, 30})},
		{4, []int{5, 15}, because([]int{0}, []int{30})},
		{4, []int{15, 5}, because([]int{1}, []int{30})},
		{2, []int{15, 15}, because([]int{0}, []int{0})}, // from yes to no
		{2, []int{25, 25}, because([]int{0, 1}, []int{0, 0})},
		{3, []int{25, 25}, because([]int{0}, []int{0})},
		{6, []int{api.MaxValue, 30}, because([]int{0}, []int{0})},
	} {
		m.Need = x.need
		if got := reasonsOf(m, x.x...); !got.is(x.want) {
			t.Error(i, got)
		}
	}
}

// P6.3: values that are just at a cut, and at the ends of what values may be; cuts
// of trees, which are in no order, count like those of scales.
func TestValuesAtCuts(t *testing.T) {
	for i, x := range []struct {
		m    api.Model
		x    int
		want reasoned
	}{
		{one(1, 1, 1), 0, because([]int{0}, []int{1})},
		{one(1, 1, 1), api.MaxValue, because([]int{0}, []int{0})},
		{one(1, api.MaxValue, 1), 0, because([]int{0}, []int{api.MaxValue})},
		{one(1, api.MaxValue, 1), api.MaxValue - 1, because([]int{0}, []int{api.MaxValue})},
		{one(1, api.MaxValue, 1), api.MaxValue, because([]int{0}, []int{0})},
		{api.Model{Traits: 1, Need: 3, Trees: []api.Tree{tree(1000, ask(0, 50, 1, 2), ask(0, 20, 3, 4), leaf(1), leaf(2), leaf(3))}}, 70, because([]int{0}, []int{20})},
		{api.Model{Traits: 1, Need: 3, Trees: []api.Tree{tree(1000, ask(0, 50, 2, 1), leaf(3), ask(0, 20, 3, 4), leaf(2), leaf(0))}}, 7, because([]int{0}, []int{50})},
		{api.Model{Traits: 1, Need: 1, Trees: []api.Tree{tree(1000, ask(0, 50, 1, 2), leaf(0), leaf(-9)), tree(1000, ask(0, 60, 1, 2), leaf(0), leaf(10))}}, 7, because([]int{0}, []int{60})},
		{api.Model{Traits: 1, Need: 1, Cards: []api.Card{card(1000, 0, scale(0, 0, 9, -5)), card(1000, 0, scale(0, 0, 4, 3))}}, 1, because([]int{0}, []int{4})},
	} {
		if got := reasonsOf(x.m, x.x); !got.is(x.want) {
			t.Error(i, got)
		}
	}
}

// P6.3: what is missing may be made known, or stay as it is; nothing is made to be
// missing.
func TestReasonsAndMissing(t *testing.T) {
	for i, x := range []struct {
		m    api.Model
		x    []int
		want reasoned
	}{
		// The value 0 is another one than Missing.
		{one(0, 10, 0), []int{api.Missing}, because([]int{0}, []int{0})},
		{one(0, 10, 0, 10, 0), []int{api.Missing, 3}, because([]int{0}, []int{0})},
		{one(0, 10, 0, 10, 0), []int{api.Missing, api.Missing}, because([]int{0, 1}, []int{0, 0})},
		// The other one stays missing.
		{one(0, 10, 0, 10, 1), []int{api.Missing, api.Missing}, because([]int{1}, []int{10})},
		{one(4, 10, 1, 10, 5), []int{api.Missing, api.Missing}, because([]int{1}, []int{10})},
		{one(4, 10, 5, 10, 5), []int{api.Missing, api.Missing}, because([]int{0}, []int{10})},
		// Only with the value missing would the answer be no.
		{one(0, 10, 0), []int{5}, reasoned{e: api.ErrNone}},
		{one(0, 10, 0), []int{10}, reasoned{e: api.ErrNone}},
	} {
		if got := reasonsOf(x.m, x.x...); !got.is(x.want) {
			t.Error(i, got)
		}
	}
	// With both known the answer is no, with one of them missing yes.
	m := api.Model{Traits: 2, Need: 3, Cards: []api.Card{card(1000, 0, scale(0, 0, 10, 1), scale(2, 0))}}
	if got := reasonsOf(m, 0, api.Missing); !got.is(because([]int{0}, []int{10})) {
		t.Error(got)
	}
	if got := reasonsOf(m, 0, 0); !got.is(reasoned{e: api.ErrNone}) {
		t.Error(got)
	}
}

// P6.3: there are no reasons if the answer is the same with all values.
func TestNoReasons(t *testing.T) {
	for i, x := range []struct {
		m api.Model
		x []int
	}{
		{api.Model{Traits: 1}, []int{0}},
		{api.Model{Traits: 3, Need: 1}, []int{0, api.Missing, 8}},
		{one(7, 10, 3, 10, 3), []int{0, 99}},
		{one(0, 10, 3, 10, 3), []int{0, 99}},
		{with(exampleModel(), func(m *api.Model) { m.Need = 80 }), []int{5, 200}},
		{with(exampleModel(), func(m *api.Model) { m.Need = -10 }), []int{12, 30}},
	} {
		if got := reasonsOf(x.m, x.x...); !got.is(reasoned{e: api.ErrNone}) {
			t.Error(i, got)
		}
	}
	// Just within what can be had.
	if got := reasonsOf(one(6, 10, 3, 10, 3), 0, 99); !got.is(because([]int{0}, []int{10})) {
		t.Error(got)
	}
}

// P6.3: reasons of many models are those that are found by trying all lists of
// traits, and all values one by one.
func TestReasonsAgain(t *testing.T) {
	r := newRandom(3)
	sizes := map[int]int{}
	try := func(m api.Model) {
		t.Helper()
		x := r.values(m.Traits)
		if all := slices.Repeat([]api.Span{span(0, api.MaxValue)}, m.Traits); r.Intn(3) > 0 {
			// Just within, or beyond, what can be had, so that many traits have to change.
			m.Need = ends(t, m, all).Hi/api.Whole - r.Intn(5) + 1
		}
		got, want := reasonsOf(m, x...), reasonsAgain(m, x)
		if !got.is(want) {
			t.Fatal(m, x, got, want)
		}
		sizes[len(got.traits)]++
	}
	for range 4000 {
		try(r.model(1 + r.Intn(3)))
	}
	for range 60 {
		try(r.model(4 + r.Intn(2)))
	}
	if sizes[0] < 200 || sizes[1] < 500 || sizes[2] < 200 || sizes[3] < 20 {
		t.Error("too few reasons of a kind", sizes)
	}
}

// P6.3, R7: as many sets, and lists, to try as there may be come to an end soon.
func TestReasonsOfLargest(t *testing.T) {
	all := []int{0, 0, 0, 0, 0}
	top := 0 + 20 + 1 + 20 + 5 + 5
	if got := reasonsOf(with(largest(), func(m *api.Model) { m.Need = top + 1 }), all...); !got.is(reasoned{e: api.ErrNone}) {
		t.Error(got)
	}
	got := reasonsOf(with(largest(), func(m *api.Model) { m.Need = top }), all...)
	if got.e != api.OK || !slices.Equal(got.traits, []int{0, 1, 2, 3, 4}) {
		t.Error(got)
	}
}
