package ring_test

import (
	"testing"

	"goodname/api"
)

func example() world { return world{h: exampleHunt(), l: exampleFilings()} }

func TestExampleIsValid(t *testing.T) {
	if e := example().check(); e != api.OK {
		t.Error(e)
	}
}

// DOC.md, example 8: a part that three share weighs 500.
func TestExamplesOfWeight(t *testing.T) {
	for _, x := range []struct{ a, b, want int }{{1, 2, 1000}, {2, 3, 500}, {4, 5, 1000}, {4, 6, 0}} {
		if got := example().about(x.a, x.b).weight(); got != (weight{x.want, api.OK}) {
			t.Error(x, got)
		}
	}
}

func TestExamplesOfRings(t *testing.T) {
	for strength, want := range map[int][][]int{500: {{1, 2, 3, 4, 5}}, 501: {{1, 2, 3}}, 1001: nil} {
		if got := example().at(strength).rings(); !same(got, rung{want, api.OK}) {
			t.Error(strength, got)
		}
	}
}

func TestExampleOfWhy(t *testing.T) {
	want := told{[]api.Tie{tie(2, 4, 500), tie(4, 5, 1000)}, api.OK}
	if got := example().about(2, 5).why(); !same(got, want) {
		t.Error(got)
	}
}

func TestExamplesOfApart(t *testing.T) {
	if got := example().about(1, 0).at(501).apart(); !same(got, apart{[]int{1, 2, 3}, 500, api.OK}) {
		t.Error(got)
	}
	if got := example().about(6, 0).at(1).apart(); !same(got, apart{[]int{6}, 0, api.OK}) {
		t.Error(got)
	}
}

func TestExampleOfTune(t *testing.T) {
	if got := example().with(func(w *world) { w.good = []int{4, 5} }).tune(); got != (tuned{501, 3, 0, api.OK}) {
		t.Error(got)
	}
}
