package ring_test

import (
	"testing"

	"goodname/api"
)

// P8.5: the strength is the least one at which few enough good filings are in
// rings; those that are in none are no alarms.
func TestTune(t *testing.T) {
	for i, x := range []struct {
		size, most int
		good       []int
		want       tuned
	}{
		{2, 0, nil, tuned{1, 6, 0, api.OK}},
		{2, 0, []int{5, 8}, tuned{1, 6, 0, api.OK}},
		{2, 0, []int{1}, tuned{2001, 2, 0, api.OK}},
		{2, 1, []int{1}, tuned{1, 6, 1, api.OK}},
		{2, 1, []int{1, 2}, tuned{2001, 2, 0, api.OK}},
		{2, 2, []int{1, 2}, tuned{1, 6, 2, api.OK}},
		{2, 0, []int{1, 3}, tuned{3001, 0, 0, api.OK}},
		{2, 1, []int{1, 3}, tuned{2001, 2, 1, api.OK}},
		{2, 1, []int{3, 4, 5}, tuned{3001, 0, 0, api.OK}},
		{2, 5, []int{1, 2, 3, 4, 6, 7}, tuned{2001, 2, 2, api.OK}},
		{2, 6, []int{1, 2, 3, 4, 6, 7}, tuned{1, 6, 6, api.OK}},
		{2, 24, []int{1, 2, 3, 4, 5, 6, 7, 8}, tuned{1, 6, 6, api.OK}},
		{3, 0, []int{1}, tuned{1001, 0, 0, api.OK}},
		{6, 5, []int{1, 2, 3, 4, 6, 7}, tuned{1001, 0, 0, api.OK}},
		{7, 0, []int{1, 2, 3, 4, 6, 7}, tuned{1, 0, 0, api.OK}},
	} {
		w := path()
		w.h.Size, w.good, w.most = x.size, x.good, x.most
		if got := w.tune(); got != x.want {
			t.Error(i, got)
		}
	}
}

// P8.5: there is always one, also if two filings weigh as much as can be.
func TestTuneOfTheGreatestWeight(t *testing.T) {
	w := world{h: api.Hunt{Common: 3, Size: 2}, l: of([]int{1, 2}, tied{1, 2, 6}), good: []int{1}}
	if got := w.tune(); got != (tuned{6001, 0, 0, api.OK}) {
		t.Error(got)
	}
	w.most = 1
	if got := w.tune(); got != (tuned{1, 2, 1, api.OK}) {
		t.Error(got)
	}
	w.h.Common = 2
	w.most = 0
	if got := w.tune(); got != (tuned{1, 0, 0, api.OK}) {
		t.Error(got)
	}
}

// P8.5, P8.8: what is told of many filings is what is found by trying all
// strengths: fewer alarms cannot be had by less.
func TestTuneAgain(t *testing.T) {
	r := newRandom(5)
	seen := map[int]bool{}
	alarms := 0
	for range 600 {
		w := r.either(12)
		got, want := w.tune(), tuneAgain(w)
		if got != want {
			t.Fatal(w, got, want)
		}
		seen[want.strength] = true
		if want.alarms > 0 && want.strength > 1 {
			alarms++
		}
	}
	if len(seen) < 20 || alarms < 20 {
		t.Error("too few strengths, or alarms", len(seen), alarms)
	}
}
