package trial_test

import (
	"testing"

	"goodname/api"
)

// good, bad and unknown are tallies of one to whom the answer is yes.
func good() tallied    { return tallied{Tally: api.Tally{Yes: [3]int{1, 0, 0}}} }
func bad() tallied     { return tallied{Tally: api.Tally{Yes: [3]int{0, 1, 0}}} }
func unknown() tallied { return tallied{Tally: api.Tally{Yes: [3]int{0, 0, 1}}} }

// always is a plan whose answer is yes, whatever the values are.
func always(wait int) api.Plan {
	p := ladder(api.TraitOpen, 1, -1)
	p.Wait = wait
	return p
}

// P7.2: what became of one who asked on the day 20, and waited for 10, by what is
// known on a day now.
func TestWhatBecame(t *testing.T) {
	for _, x := range []struct {
		name     string
		r        []api.Report
		accounts []int
		became   map[int]tallied // by now
	}{
		{"holds nothing", []api.Report{defaulted(1, 5, 5)}, nil, map[int]tallied{0: unknown(), 19: unknown(), 29: unknown(), 30: good(), api.MaxDay: good()}},
		{"nothing is told", nil, []int{10}, map[int]tallied{29: unknown(), 30: good()}},
		{"never in default", []api.Report{opened(1, 5, 5), late(2, 25, 25, 90)}, []int{10}, map[int]tallied{29: unknown(), 30: good(), 90: good()}},
		{"in default before it asked", []api.Report{defaulted(1, 5, 5)}, []int{10}, map[int]tallied{29: unknown(), 30: bad(), 90: bad()}},
		{"in default until the end", []api.Report{defaulted(1, 30, 30)}, []int{10}, map[int]tallied{29: unknown(), 30: bad(), 90: bad()}},
		{"in default after the end", []api.Report{defaulted(1, 31, 31)}, []int{10}, map[int]tallied{30: good(), 31: good(), 90: good()}},
		{"told after the end", []api.Report{defaulted(1, 50, 30)}, []int{10}, map[int]tallied{29: unknown(), 30: good(), 49: good(), 50: bad()}},
		{"told before it came", []api.Report{defaulted(1, 5, 31)}, []int{10}, map[int]tallied{30: good(), 90: good()}},
		{"withdrawn after the end", []api.Report{defaulted(1, 25, 25), withdraw(2, 60, 1)}, []int{10}, map[int]tallied{30: bad(), 59: bad(), 60: good()}},
		{"corrected to be after the end", []api.Report{defaulted(1, 25, 25), correct(2, 60, 1, 31, 100)}, []int{10}, map[int]tallied{59: bad(), 60: good()}},
		{"corrected to be before it", []api.Report{defaulted(1, 35, 31), correct(2, 60, 1, 30, 100)}, []int{10}, map[int]tallied{59: good(), 60: bad()}},
		{"closed after its default", []api.Report{defaulted(1, 25, 25), closed(2, 28, 28)}, []int{10}, map[int]tallied{30: good()}},
		{"closed after the end", []api.Report{defaulted(1, 25, 25), closed(2, 31, 31)}, []int{10}, map[int]tallied{30: bad(), 31: bad()}},
		{"of another account", []api.Report{defaulted(1, 25, 25)}, []int{9, 11}, map[int]tallied{30: good()}},
		{"the first of four", []api.Report{defaulted(1, 25, 25)}, []int{10, 20, 30, 40}, map[int]tallied{29: unknown(), 30: bad()}},
		{"the third of four", []api.Report{defaulted(1, 25, 25), opened(2, 5, 5, on(1)), opened(3, 5, 5, on(40))}, []int{1, 2, 10, 40}, map[int]tallied{30: bad()}},
		{"the last of four", []api.Report{defaulted(1, 25, 25), opened(2, 5, 5, on(1))}, []int{1, 2, 3, 10}, map[int]tallied{30: bad()}},
		{"two of them", []api.Report{defaulted(1, 25, 25), defaulted(2, 25, 25, on(11))}, []int{10, 11}, map[int]tallied{30: bad()}},
	} {
		for now, want := range x.became {
			w := world{p: always(10), r: x.r, l: []api.Applicant{person(20, 1, x.accounts...)}, now: now}
			if got := w.run(); got != want {
				t.Error(x.name, now, got)
			}
		}
	}
}

// P7.2: a wait of no days, and one that ends on the last day, or after it.
func TestWaits(t *testing.T) {
	r := []api.Report{defaulted(1, 25, 25)}
	for i, x := range []struct {
		day, wait, now int
		want           tallied
	}{
		{25, 0, 25, bad()}, {24, 0, 25, good()}, {24, 0, 24, good()}, {24, 0, 23, unknown()}, {24, 1, 24, unknown()}, {24, 1, 25, bad()},
		{0, api.MaxDay, api.MaxDay, bad()}, {0, api.MaxDay, api.MaxDay - 1, unknown()}, {1, api.MaxDay, api.MaxDay, unknown()},
		{api.MaxDay, 0, api.MaxDay, bad()}, {api.MaxDay, 1, api.MaxDay, unknown()}, {api.MaxDay, api.MaxDay, api.MaxDay, unknown()}, {99960, 40, api.MaxDay, bad()}, {99960, 41, api.MaxDay, unknown()},
		{0, 0, 0, good()}, {1, 0, 0, unknown()}, {0, 1, 0, unknown()},
	} {
		w := world{p: always(x.wait), r: r, l: []api.Applicant{person(x.day, 0, 10)}, now: x.now}
		if got := w.run(); got != x.want {
			t.Error(i, got)
		}
	}
}

// P7.2: each is in one place of the tally, by the answer on its day, and by what
// became of it.
func TestPlacesOfTally(t *testing.T) {
	// Owed are 3 of the account 3, of which nobody is in default, 3 of 4, which is, and
	// 1 of 1, which is not, and 1 of 5, which is.
	r := append(debts(), owed(4, 1, 1, 3, on(4)), owed(5, 1, 1, 1, on(5)), defaulted(6, 20, 20, on(4)), defaulted(7, 20, 20, on(5)))
	p := ladder(api.TraitOwed, 1, 2)
	p.Wait = 15
	w := world{p: p, r: r, now: 30}
	for day, accounts := range map[int][]int{
		5:  {3, 3, 3, 4, 4, 1, 1, 1, 1, 5, 5, 5, 5, 5},
		16: {3, 4, 4, 1, 1, 5},
	} {
		for _, id := range accounts {
			w.l = append(w.l, person(day, id, id))
		}
	}
	if got := w.run(); got != (tallied{api.Tally{Yes: [3]int{3, 2, 3}, No: [3]int{4, 5, 3}}, api.OK}) {
		t.Error(got)
	}
	w.now = 31
	if got := w.run(); got != (tallied{api.Tally{Yes: [3]int{4, 4, 0}, No: [3]int{6, 6, 0}}, api.OK}) {
		t.Error(got)
	}
}

// P7.2: the answer is that of the model to the values, also to one that is missing.
func TestAnswersOfRun(t *testing.T) {
	for need, yes := range map[int]int{-2: 5, -1: 5, 0: 4, 1: 3, 2: 2, 3: 1, 4: 0} {
		w := world{p: ladder(api.TraitOwed, 1, need), r: debts(), l: owing(9, 1, 3, 8, 2)}
		if got := w.run(); got != (tallied{api.Tally{Yes: [3]int{0, 0, yes}, No: [3]int{0, 0, 5 - yes}}, api.OK}) {
			t.Error(need, got)
		}
	}
}

// P7.2: tallies of many people are as the chapter defines them.
func TestRunAgain(t *testing.T) {
	r := newRandom(2)
	var all [2][3]int
	for range 800 {
		w := r.world()
		got, want := w.run(), runAgain(w)
		if got != (tallied{want, api.OK}) {
			t.Fatal(w, got, want)
		}
		for i, n := range [...][3]int{want.No, want.Yes} {
			for k := range n {
				all[i][k] += n[k]
			}
		}
	}
	for _, n := range all {
		if min(n[0], n[1], n[2]) < 200 {
			t.Error("too few became something", all)
		}
	}
}
