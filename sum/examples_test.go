package sum_test

import (
	"testing"

	"goodname/api"
)

// example has the table of the chapter's examples.
func example() world {
	return world{columns: 2, l: []api.Subject{subject(1, 30, 500), subject(2, 41, 700), subject(3, 52, 900)}}
}

// from is a question of the examples.
func from(lo, hi, step int) api.Question { return of(1, 800, step, where(0, lo, hi)) }

// exampleA, exampleB and exampleC are the questions of the examples.
func exampleA() api.Question { return from(30, 45, 100) }
func exampleB() api.Question { return from(40, 60, 100) }
func exampleC() api.Question { return from(30, 60, 100) }

func TestExampleIsValid(t *testing.T) {
	if e := example().check(); e != api.OK {
		t.Error(e)
	}
}

func TestExamplesOfMeets(t *testing.T) {
	if got := example().asked(exampleA()).meets(); !same(got, met{[]int{1, 2}, api.OK}) {
		t.Error(got)
	}
	if got := example().asked(exampleC()).meets(); !same(got, met{[]int{1, 2, 3}, api.OK}) {
		t.Error(got)
	}
}

func TestExamplesOfSum(t *testing.T) {
	for i, x := range []struct {
		q    api.Question
		want summed
	}{
		{exampleA(), summed{1200, 800, api.OK}},
		{exampleB(), summed{1500, 800, api.OK}},
		{from(30, 60, 300), summed{2100, 900, api.OK}},
	} {
		if got := example().asked(x.q).sum(); got != x.want {
			t.Error(i, got)
		}
	}
}

func TestExamplesOfDeduced(t *testing.T) {
	two, three := example().audited(exampleA(), exampleB()), example().audited(exampleA(), exampleB(), exampleC())
	if got := two.deduced(); !same(got, deduced{}) {
		t.Error(got)
	}
	if got := three.deduced(); !same(got, deduced{[]int{1, 2, 3}, api.OK}) {
		t.Error(got)
	}
}

func TestExamplesOfHow(t *testing.T) {
	w := example().audited(exampleA(), exampleB(), exampleC())
	if got := w.about(1).how(); !same(got, how{[]int{0, -1, 1}, 1, api.OK}) {
		t.Error(got)
	}
	if got := w.about(2).how(); !same(got, how{[]int{1, 1, -1}, 1, api.OK}) {
		t.Error(got)
	}
}

func TestExampleOfHide(t *testing.T) {
	if got := example().audited(exampleA(), exampleB()).about(1).hide(); !same(got, hidden{[]int{1, -1, 1}, api.OK}) {
		t.Error(got)
	}
}

// DOC.md, example 10: of the sums of all pairs of three people each one's value
// follows, as half of two less the third one.
func TestExampleOfPairs(t *testing.T) {
	w := sets(people(3), []int{1, 2}, []int{1, 3}, []int{2, 3})
	for id, want := range map[int][]int{1: {1, 1, -1}, 2: {1, -1, 1}, 3: {-1, 1, 1}} {
		if got := w.about(id).how(); !same(got, how{want, 2, api.OK}) {
			t.Error(id, got)
		}
	}
}
