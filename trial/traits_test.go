package trial_test

import (
	"testing"

	"goodname/api"
	"goodname/trial"
)

// valueOf is the value of one trait of one applicant.
func valueOf(t *testing.T, x api.Trait, r []api.Report, a api.Applicant) int {
	t.Helper()
	p := api.Plan{Model: api.Model{Traits: 1}, Traits: []api.Trait{x}}
	l, e := trial.Values(p, r, []api.Applicant{a})
	if e != api.OK || len(l) != 1 || len(l[0]) != 1 {
		t.Fatal(x, r, a, l, e)
	}
	return l[0][0]
}

// life is a story of some accounts, and what the values of one who holds them are
// on some days.
type life struct {
	name     string
	r        []api.Report
	accounts []int
	values   map[int]int // by the day
}

func checkLives(t *testing.T, kind uint8, lives []life) {
	t.Helper()
	for _, x := range lives {
		for day, want := range x.values {
			if got := valueOf(t, trait(kind, 1), x.r, person(day, 3, x.accounts...)); got != want {
				t.Error(kind, x.name, day, got, want)
			}
		}
	}
}

// P7.1: how many accounts are open or late.
func TestTraitOpen(t *testing.T) {
	checkLives(t, api.TraitOpen, []life{
		{"nobody's", []api.Report{opened(1, 5, 5)}, nil, map[int]int{9: 0}},
		{"nothing is told", nil, []int{10, 20}, map[int]int{9: 0}},
		{"of another account", []api.Report{opened(1, 5, 5)}, []int{9, 11}, map[int]int{9: 0}},
		{"one, by what it was opened, was late, in default, and was closed", []api.Report{opened(1, 5, 5), late(2, 7, 7, 1), defaulted(3, 9, 9), closed(4, 11, 11)}, []int{10}, map[int]int{4: 0, 5: 1, 6: 1, 7: 1, 8: 1, 9: 0, 10: 0, 11: 0}},
		{"late open", []api.Report{late(1, 5, 5, 1), late(2, 5, 5, 0)}, []int{10}, map[int]int{4: 0, 5: 1}},
		{"known later than it was", []api.Report{opened(1, 8, 5)}, []int{10}, map[int]int{5: 0, 7: 0, 8: 1}},
		{"about a day that comes", []api.Report{owed(1, 5, 8, 3)}, []int{10}, map[int]int{5: 0, 7: 0, 8: 1}},
		{"four", []api.Report{opened(1, 5, 5), opened(2, 6, 6, on(20)), owed(3, 7, 7, 0, on(30)), late(4, 8, 8, 9, on(40))}, []int{10, 20, 30, 40}, map[int]int{4: 0, 5: 1, 6: 2, 7: 3, 8: 4}},
	})
}

// P7.1: the sum of what is owed, which is missing if it is open of one account.
func TestTraitOwed(t *testing.T) {
	checkLives(t, api.TraitOwed, []life{
		{"nobody's", []api.Report{owed(1, 5, 5, 7)}, nil, map[int]int{9: 0}},
		{"nothing is told", []api.Report{opened(1, 5, 5)}, []int{10, 20}, map[int]int{9: 0}},
		{"of another account", []api.Report{owed(1, 5, 5, 7)}, []int{9, 11}, map[int]int{9: 0}},
		{"it becomes more and less", []api.Report{owed(1, 5, 5, 7), owed(2, 6, 6, 70), owed(3, 7, 7, 0)}, []int{10}, map[int]int{4: 0, 5: 7, 6: 70, 7: 0}},
		{"a sum", []api.Report{owed(1, 5, 5, 7), owed(2, 6, 6, 70, on(20)), owed(3, 7, 7, 700, on(30)), owed(4, 8, 8, 7000, on(40))}, []int{10, 20, 30, 40}, map[int]int{5: 7, 6: 77, 7: 777, 8: 7777}},
		{"of one and the other one", []api.Report{owed(1, 5, 5, 7), owed(2, 5, 5, 70, on(20)), owed(3, 5, 5, 700, on(30))}, []int{10, 30}, map[int]int{9: 707}},
		{"two that agree", []api.Report{owed(1, 5, 5, 7), owed(2, 5, 5, 7, by(6))}, []int{10}, map[int]int{5: 7}},
		{"open", []api.Report{owed(1, 5, 5, 7), owed(2, 6, 5, 8, by(6)), withdraw(3, 7, 1)}, []int{10}, map[int]int{5: 7, 6: api.Missing, 7: 8}},
		{"open of the first one", []api.Report{owed(1, 5, 5, 7), owed(2, 6, 5, 8, by(6)), owed(3, 1, 1, 5, on(20))}, []int{10, 20}, map[int]int{5: 12, 6: api.Missing}},
		{"open of the last one", []api.Report{owed(1, 5, 5, 7), owed(2, 6, 5, 8, by(6)), owed(3, 1, 1, 5, on(2))}, []int{2, 10}, map[int]int{5: 12, 6: api.Missing}},
		{"open of another one", []api.Report{owed(1, 5, 5, 7), owed(2, 6, 5, 8, by(6)), owed(3, 1, 1, 5, on(2))}, []int{2}, map[int]int{6: 5}},
		{"what is in default is owed as it was told", []api.Report{owed(1, 5, 5, 7), defaulted(2, 6, 6)}, []int{10}, map[int]int{6: 7}},
		{"what is late open is no matter", []api.Report{owed(1, 5, 5, 7), late(2, 5, 5, 1), late(3, 5, 5, 2)}, []int{10}, map[int]int{5: 7}},
		{"corrected", []api.Report{owed(1, 5, 5, 7), correct(2, 8, 1, 5, 4)}, []int{10}, map[int]int{7: 7, 8: 4}},
	})
}

// P7.1: the greatest number of days by which one is late, which is missing if it
// is open of one account.
func TestTraitLate(t *testing.T) {
	checkLives(t, api.TraitLate, []life{
		{"nobody's", []api.Report{late(1, 5, 5, 7)}, nil, map[int]int{9: 0}},
		{"nothing is told", []api.Report{opened(1, 5, 5)}, []int{10, 20}, map[int]int{9: 0}},
		{"it becomes more and less", []api.Report{late(1, 5, 5, 7), late(2, 6, 6, 70), late(3, 7, 7, 0)}, []int{10}, map[int]int{4: 0, 5: 7, 6: 70, 7: 0}},
		{"the greatest first", []api.Report{late(1, 5, 5, 70), late(2, 5, 5, 8, on(20)), late(3, 5, 5, 9, on(30))}, []int{10, 20, 30}, map[int]int{9: 70}},
		{"between others", []api.Report{late(1, 5, 5, 7), late(2, 5, 5, 80, on(20)), late(3, 5, 5, 9, on(30))}, []int{10, 20, 30}, map[int]int{9: 80}},
		{"last", []api.Report{late(1, 5, 5, 7), late(2, 5, 5, 8, on(20)), late(3, 5, 5, 90, on(30))}, []int{10, 20, 30}, map[int]int{9: 90}},
		{"of another account", []api.Report{late(1, 5, 5, 7), late(2, 5, 5, 80, on(20))}, []int{10, 30}, map[int]int{9: 7}},
		{"open", []api.Report{late(1, 5, 5, 7), late(2, 6, 5, 8, by(6)), withdraw(3, 7, 1)}, []int{10}, map[int]int{5: 7, 6: api.Missing, 7: 8}},
		{"open beside a greater one", []api.Report{late(1, 5, 5, 7), late(2, 6, 5, 8, by(6)), late(3, 1, 1, 50, on(20))}, []int{10, 20}, map[int]int{5: 50, 6: api.Missing}},
		{"beside a greater one before it", []api.Report{late(1, 5, 5, 7), late(2, 6, 5, 8, by(6)), late(3, 1, 1, 50, on(2))}, []int{2, 10}, map[int]int{5: 50, 6: api.Missing}},
		{"what is owed open is no matter", []api.Report{late(1, 5, 5, 7), owed(2, 5, 5, 1), owed(3, 5, 5, 2)}, []int{10}, map[int]int{5: 7}},
		{"of one that is closed", []api.Report{late(1, 5, 5, 7), closed(2, 6, 6)}, []int{10}, map[int]int{6: 7}},
	})
}

// P7.1: how many accounts are in default.
func TestTraitDefault(t *testing.T) {
	checkLives(t, api.TraitDefault, []life{
		{"nobody's", []api.Report{defaulted(1, 5, 5)}, nil, map[int]int{9: 0}},
		{"of another account", []api.Report{defaulted(1, 5, 5)}, []int{9, 11}, map[int]int{9: 0}},
		{"one, by what it was opened, late, in default, and closed", []api.Report{opened(1, 5, 5), late(2, 7, 7, 1), defaulted(3, 9, 9), closed(4, 11, 11)}, []int{10}, map[int]int{5: 0, 7: 0, 8: 0, 9: 1, 10: 1, 11: 0}},
		{"open", []api.Report{defaulted(1, 5, 5), defaulted(2, 5, 4)}, []int{10}, map[int]int{9: 1}},
		{"withdrawn", []api.Report{defaulted(1, 5, 5), withdraw(2, 8, 1)}, []int{10}, map[int]int{7: 1, 8: 0}},
		{"three of four", []api.Report{defaulted(1, 5, 5), defaulted(2, 6, 6, on(20)), opened(3, 1, 1, on(30)), defaulted(4, 7, 7, on(40))}, []int{10, 20, 30, 40}, map[int]int{4: 0, 5: 1, 6: 2, 7: 3}},
	})
}

// P7.1: how many days ago the first account was opened, which is missing if no
// opening is told.
func TestTraitAge(t *testing.T) {
	checkLives(t, api.TraitAge, []life{
		{"nobody's", []api.Report{opened(1, 5, 5)}, nil, map[int]int{9: api.Missing}},
		{"no opening is told", []api.Report{owed(1, 5, 5, 7), late(2, 5, 5, 7)}, []int{10, 20}, map[int]int{9: api.Missing}},
		{"of another account", []api.Report{opened(1, 5, 5)}, []int{9, 11}, map[int]int{9: api.Missing}},
		{"on the day", []api.Report{opened(1, 5, 5)}, []int{10}, map[int]int{4: api.Missing, 5: 0, 6: 1, 100000: 99995}},
		{"on the day 0", []api.Report{opened(1, 0, 0)}, []int{10}, map[int]int{0: 0, 1: 1, 100000: 100000}},
		{"told later", []api.Report{opened(1, 8, 5)}, []int{10}, map[int]int{7: api.Missing, 8: 3}},
		{"told before", []api.Report{opened(1, 5, 8)}, []int{10}, map[int]int{7: api.Missing, 8: 0, 9: 1}},
		{"open", []api.Report{opened(1, 5, 5), opened(2, 7, 3, by(6))}, []int{10}, map[int]int{6: 1, 7: 4}},
		{"the oldest first", []api.Report{opened(1, 1, 1), opened(2, 4, 4, on(20)), opened(3, 3, 3, on(30))}, []int{10, 20, 30}, map[int]int{9: 8}},
		{"between others", []api.Report{opened(1, 4, 4), opened(2, 1, 1, on(20)), opened(3, 3, 3, on(30))}, []int{10, 20, 30}, map[int]int{9: 8}},
		{"last", []api.Report{opened(1, 4, 4), opened(2, 3, 3, on(20)), opened(3, 1, 1, on(30))}, []int{10, 20, 30}, map[int]int{9: 8}},
		{"beside one of which no opening is told", []api.Report{owed(1, 1, 1, 7), opened(2, 4, 4, on(20))}, []int{10, 20, 30}, map[int]int{3: api.Missing, 9: 5}},
		{"of one that was closed, or in default", []api.Report{opened(1, 1, 1), closed(2, 2, 2), opened(3, 2, 2, on(20)), defaulted(4, 3, 3, on(20))}, []int{10, 20}, map[int]int{9: 8}},
	})
}

// P7.1: a value is the number divided by Step, rounded down.
func TestSteps(t *testing.T) {
	r := []api.Report{owed(1, 1, 1, 1999), owed(2, 1, 1, 1, on(20)), late(3, 1, 1, 59), opened(4, 1, 1), opened(5, 1, 1, on(20)), opened(6, 1, 1, on(30)), defaulted(7, 1, 1, on(40)), defaulted(8, 1, 1, on(50)), owed(9, 1, 1, 4, on(60)), owed(10, 1, 1, 5, on(60))}
	for i, x := range []struct {
		kind       uint8
		step, want int
		accounts   []int
	}{
		{api.TraitOwed, 1, 2000, []int{10, 20}}, {api.TraitOwed, 1000, 2, []int{10, 20}}, {api.TraitOwed, 1000, 1, []int{10}}, {api.TraitOwed, 2000, 1, []int{10, 20}}, {api.TraitOwed, 2001, 0, []int{10, 20}}, {api.TraitOwed, api.MaxMoney, 0, []int{10}},
		{api.TraitOwed, 10, api.Missing, []int{10, 60}}, {api.TraitOwed, 2, api.Missing, []int{60}}, {api.TraitOwed, api.MaxMoney, api.Missing, []int{60}},
		{api.TraitLate, 30, 1, []int{10}}, {api.TraitLate, 60, 0, []int{10}}, {api.TraitLate, 59, 1, []int{10}}, {api.TraitLate, 29, 2, []int{10}},
		{api.TraitOpen, 1, 3, []int{10, 20, 30}}, {api.TraitOpen, 2, 1, []int{10, 20, 30}}, {api.TraitOpen, 3, 1, []int{10, 20, 30}}, {api.TraitOpen, 4, 0, []int{10, 20, 30}},
		{api.TraitDefault, 1, 2, []int{40, 50}}, {api.TraitDefault, 2, 1, []int{40, 50}}, {api.TraitDefault, 3, 0, []int{40, 50}},
		{api.TraitAge, 1, 364, []int{10}}, {api.TraitAge, 364, 1, []int{10}}, {api.TraitAge, 365, 0, []int{10}}, {api.TraitAge, 7, 52, []int{10}}, {api.TraitAge, 30, api.Missing, []int{40}}, {api.TraitAge, api.MaxMoney, 0, []int{10}},
	} {
		if got := valueOf(t, trait(x.kind, x.step), r, person(365, 0, x.accounts...)); got != x.want {
			t.Error(i, x, got)
		}
	}
}

// P7.1: a value is at most MaxValue; R5: the greatest sums are exact.
func TestGreatestValues(t *testing.T) {
	r := []api.Report{owed(1, 1, 1, api.MaxMoney), owed(2, 1, 1, api.MaxMoney, on(20)), owed(3, 1, 1, api.MaxMoney, on(30)), owed(4, 1, 1, api.MaxMoney-1, on(40)), owed(5, 1, 1, api.MaxValue, on(50)), owed(6, 1, 1, 1, on(60))}
	for i, x := range []struct {
		step, want int
		accounts   []int
	}{
		{1, api.MaxValue, []int{10, 20, 30, 40}}, {4000000, 999999, []int{10, 20, 30, 40}}, {3999999, api.MaxValue, []int{10, 20, 30, 40}}, {api.MaxMoney, 3, []int{10, 20, 30, 40}}, {api.MaxMoney, 0, []int{40}}, {api.MaxMoney, 1, []int{10}},
		{1, api.MaxValue, []int{50}}, {1, api.MaxValue, []int{50, 60}}, {2, 500000, []int{50, 60}}, {api.MaxValue, api.MaxValue, []int{10}}, {api.MaxValue + 1, 999999, []int{10}}, {api.MaxValue - 1, api.MaxValue, []int{10}},
	} {
		if got := valueOf(t, trait(api.TraitOwed, x.step), r, person(9, 0, x.accounts...)); got != x.want {
			t.Error(i, x, got)
		}
	}
}

// P7.1: values are those of all traits, in their order, for each applicant, in
// their order, also if a kind or an applicant comes twice.
func TestOrderOfValues(t *testing.T) {
	w := example()
	w.p.Model = api.Model{Traits: 5}
	w.p.Traits = []api.Trait{trait(api.TraitLate, 1), trait(api.TraitOwed, 1000), trait(api.TraitAge, 7), trait(api.TraitOwed, 1), trait(api.TraitOpen, 1)}
	w.l = append([]api.Applicant{person(70, 0, 10), person(96, 1), person(96, 1, 10)}, w.l...)
	want := [][]int{{40, 50, 8, 50000, 1}, {0, 0, api.Missing, 0, 0}, {40, 50, 12, 50000, 0}, {0, 50, 5, 50000, 1}, {40, 50, 8, 50000, 1}, {0, 0, api.Missing, 0, 0}}
	if got := w.values(); got.e != api.OK || !same(got.values, want) {
		t.Error(got)
	}
}

// P7.1: values of many people are as the chapter defines them.
func TestValuesAgain(t *testing.T) {
	r := newRandom(1)
	missing := map[uint8]int{}
	for range 800 {
		w := r.world()
		var want [][]int
		for _, a := range w.l {
			x := valuesAgain(w.p, w.r, a)
			want = append(want, x)
			for i, v := range x {
				if v == api.Missing {
					missing[w.p.Traits[i].Kind]++
				}
			}
		}
		if got := w.values(); got.e != api.OK || !same(got.values, want) {
			t.Fatal(w, got, want)
		}
	}
	if min(missing[api.TraitOwed], missing[api.TraitLate], missing[api.TraitAge]) < 100 {
		t.Error("too few are missing", missing)
	}
}
