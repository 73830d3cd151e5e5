package score_test

import (
	"slices"
	"testing"

	"goodname/api"
	"goodname/score"
)

func TestExamplesOfScore(t *testing.T) {
	for i, x := range []struct {
		x    []int
		want scored
	}{
		{[]int{12, 30}, scored{64000, true, api.OK}},
		{[]int{5, 200}, scored{-10000, false, api.OK}},
	} {
		if got := scoreOf(exampleModel(), x.x...); got != x.want {
			t.Error(i, got)
		}
	}
}

func TestExamplesOfPoints(t *testing.T) {
	for i, x := range []struct{ x, want []int }{{[]int{12, 30}, []int{60, 8}}, {[]int{api.Missing, 200}, []int{15, -40}}} {
		if got, e := score.Points(exampleModel(), x.x); !slices.Equal(got, x.want) || e != api.OK {
			t.Error(i, got, e)
		}
	}
}

func TestExamplesOfReasons(t *testing.T) {
	for i, x := range []struct {
		x    []int
		want reasoned
	}{
		{[]int{5, 200}, reasoned{[]int{0, 1}, []int{10, 0}, api.OK}}, // DOC.md, example 6
		{[]int{12, 30}, reasoned{[]int{0}, []int{0}, api.OK}},
	} {
		if got := reasonsOf(exampleModel(), x.x...); !got.is(x.want) {
			t.Error(i, got)
		}
	}
	// DOC.md, example 6: with one of them alone the answer would not have been yes.
	for i, x := range [][]int{{10, 200}, {5, 0}} {
		if got := scoreOf(exampleModel(), x...); got.yes || got.e != api.OK {
			t.Error(i, got)
		}
	}
	if got := scoreOf(exampleModel(), 10, 0); !got.yes || got.e != api.OK {
		t.Error(got)
	}
}

func TestExampleOfBetween(t *testing.T) {
	if got, e := score.Between(exampleModel(), []api.Span{span(0, 15), span(40, 60)}); got != span(25000, 64000) || e != api.OK {
		t.Error(got, e)
	}
}
