package trial_test

import (
	"testing"

	"goodname/api"
	"goodname/trial"
)

func example() world {
	return world{p: examplePlan(), q: examplePlan(), r: exampleReports(), l: examplePeople()}
}

func TestExampleOfValues(t *testing.T) {
	if got := example().values(); got.e != api.OK || !same(got.values, [][]int{{40, 50, 0}, {60, 50, 40}, {api.Missing, 0, 0}}) {
		t.Error(got)
	}
}

// DOC.md, example 7: what was reported on the day 95 changes no answer of the day
// 70, but tells what became of it.
func TestExamplesOfRun(t *testing.T) {
	for now, want := range map[int]api.Tally{
		100: {Yes: [3]int{1, 0, 0}, No: [3]int{1, 1, 0}},
		95:  {Yes: [3]int{1, 0, 0}, No: [3]int{1, 0, 1}},
	} {
		if got := example().with(func(w *world) { w.now = now }).run(); got != (tallied{want, api.OK}) {
			t.Error(now, got)
		}
	}
	before := example().with(func(w *world) { w.now, w.r = 100, w.r[:3] })
	if got := before.run(); got != (tallied{api.Tally{Yes: [3]int{1, 0, 0}, No: [3]int{2, 0, 0}}, api.OK}) {
		t.Error(got)
	}
}

func TestExampleOfBoth(t *testing.T) {
	w := example()
	w.q.Model.Need = 16
	if got := w.both(); got != (beside{[2][2]int{{2, 0}, {1, 0}}, api.OK}) {
		t.Error(got)
	}
}

func TestExampleOfDrift(t *testing.T) {
	w := example()
	w.l, w.later = w.l[:1], w.l[1:]
	if got := w.drift(); got != (drifted{1000, api.OK}) {
		t.Error(got)
	}
}

func TestExampleOfGap(t *testing.T) {
	if got := example().gap(); got != (gapped{1000, 1, 2, api.OK}) {
		t.Error(got)
	}
}

func TestExamplesAreValid(t *testing.T) {
	if e := trial.Check(examplePlan(), examplePeople()); e != api.OK {
		t.Error(e)
	}
}
