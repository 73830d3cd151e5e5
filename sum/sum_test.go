package sum_test

import (
	"testing"

	"goodname/api"
)

// houses is a table of three columns, not in the order of the Ids.
func houses() world {
	return world{columns: 3, l: []api.Subject{
		subject(7, 10, 0, 300), subject(3, 20, 5, 40), subject(9, 30, 5, 1000), subject(1, 40, 9, 200), subject(5, 50, 0, 0),
	}}
}

// P10.1: who is asked for has in each column of Wheres a value from Lo to Hi, both
// included. The Ids are in ascending order.
func TestMeets(t *testing.T) {
	for i, x := range []struct {
		wheres []api.Where
		want   []int
	}{
		{nil, []int{1, 3, 5, 7, 9}},
		{[]api.Where{where(0, 20, 40)}, []int{1, 3, 9}},
		{[]api.Where{where(0, 21, 40)}, []int{1, 9}},
		{[]api.Where{where(0, 20, 39)}, []int{3, 9}},
		{[]api.Where{where(0, 30, 30)}, []int{9}},
		{[]api.Where{where(0, 0, 9)}, nil},
		{[]api.Where{where(0, 51, api.MaxValue)}, nil},
		{[]api.Where{where(0, 0, api.MaxValue)}, []int{1, 3, 5, 7, 9}},
		{[]api.Where{where(0, 40, 20)}, nil},
		{[]api.Where{where(0, 30, 29)}, nil},
		{[]api.Where{where(1, 0, 0)}, []int{5, 7}},
		{[]api.Where{where(1, 5, 5)}, []int{3, 9}},
		{[]api.Where{where(1, 5, 9), where(0, 30, 50)}, []int{1, 9}},
		{[]api.Where{where(0, 30, 50), where(1, 5, 9)}, []int{1, 9}},
		{[]api.Where{where(0, 10, 40), where(0, 30, 50)}, []int{1, 9}},
		{[]api.Where{where(0, 10, 20), where(0, 30, 50)}, nil},
		{[]api.Where{where(0, 10, 40), where(1, 5, 9), where(2, 40, 200)}, []int{1, 3}},
		{[]api.Where{where(0, 10, 40), where(1, 5, 9), where(2, 40, 200), where(0, 40, 40)}, []int{1}},
	} {
		for _, q := range []api.Question{heads(1, x.wheres...), of(1, 3, 100, x.wheres...)} {
			if got := houses().asked(q).meets(); !same(got, met{x.want, api.OK}) {
				t.Error(i, got)
			}
		}
	}
}

// P10.2: a subject counts its value until Clip, or 1 for heads.
func TestWhatSubjectsCount(t *testing.T) {
	for i, x := range []struct {
		q    api.Question
		want summed
	}{
		{of(2, api.MaxValue, 1), summed{1540, api.MaxValue, api.OK}},
		{of(2, 1000, 1), summed{1540, 1000, api.OK}},
		{of(2, 999, 1), summed{1539, 999, api.OK}},
		{of(2, 300, 1), summed{840, 300, api.OK}},
		{of(2, 299, 1), summed{838, 299, api.OK}},
		{of(2, 1, 1), summed{4, 1, api.OK}},
		{of(0, 25, 1), summed{105, 25, api.OK}},
		{of(1, 9, 1), summed{19, 9, api.OK}},
		{heads(1), summed{5, 1, api.OK}},
		{of(2, 300, 1, where(1, 5, 9)), summed{540, 300, api.OK}},
		{heads(1, where(1, 5, 9)), summed{3, 1, api.OK}},
		{heads(1, where(1, 6, 8)), summed{0, 1, api.OK}},
		{of(2, 300, 1, where(2, 0, 0)), summed{0, 300, api.OK}},
		{heads(1, where(2, 0, 0)), summed{1, 1, api.OK}},
		{of(1, 5, 1, where(0, 40, 40)), summed{5, 5, api.OK}},
	} {
		if got := houses().asked(x.q).sum(); got != x.want {
			t.Error(i, got)
		}
	}
}

// one is a table of one subject with a value.
func one(value int) world { return world{columns: 1, l: []api.Subject{subject(1, value)}} }

// P10.2: what is printed is the nearest multiple of Step, up if there are two.
func TestRounded(t *testing.T) {
	for _, x := range []struct{ value, step, want int }{
		{0, 1, 0}, {1, 1, 1}, {7, 1, 7},
		{0, 2, 0}, {1, 2, 2}, {2, 2, 2}, {3, 2, 4},
		{0, 3, 0}, {1, 3, 0}, {2, 3, 3}, {3, 3, 3}, {4, 3, 3}, {5, 3, 6},
		{4, 10, 0}, {5, 10, 10}, {14, 10, 10}, {15, 10, 20}, {16, 10, 20},
		{3, 7, 0}, {4, 7, 7}, {10, 7, 7}, {11, 7, 14},
		{499999, 1000000, 0}, {500000, 1000000, 1000000}, {1000000, 1000000, 1000000},
		{499999, 999999, 0}, {500000, 999999, 999999}, {1000000, 999999, 999999},
	} {
		want := summed{x.want, (1000000 + x.step - 1) / x.step * x.step, api.OK}
		if got := one(x.value).asked(of(0, api.MaxValue, x.step)).sum(); got != want {
			t.Error(x, got)
		}
	}
}

// P10.2: the bound is the least multiple of Step that is at least Clip.
func TestBound(t *testing.T) {
	for _, x := range []struct{ clip, step, want int }{
		{1, 1, 1}, {1, 2, 2}, {1, api.MaxStep, api.MaxStep}, {api.MaxValue, 1, api.MaxValue},
		{9, 10, 10}, {10, 10, 10}, {11, 10, 20}, {19, 10, 20}, {20, 10, 20}, {21, 10, 30},
		{6, 3, 6}, {7, 3, 9}, {8, 3, 9},
		{api.MaxValue, api.MaxStep, api.MaxStep}, {api.MaxValue, 999999, 1999998}, {999999, api.MaxStep, api.MaxStep}, {api.MaxValue, 7, 1000006},
	} {
		for _, w := range []world{one(5), {columns: 1}} {
			if got := w.asked(of(0, x.clip, x.step)).sum(); got.bound != x.want || got.e != api.OK {
				t.Error(x, got)
			}
		}
	}
	if got := one(5).asked(heads(6)).sum(); got != (summed{0, 6, api.OK}) {
		t.Error(got)
	}
}

// P10.2, R5: the greatest sum that there may be.
func TestGreatestSum(t *testing.T) {
	w := world{columns: 1, l: ones(16)}
	for i := range w.l {
		w.l[i].Values = []int{api.MaxValue}
	}
	if got := w.asked(of(0, api.MaxValue, api.MaxStep)).sum(); got != (summed{16000000, 1000000, api.OK}) {
		t.Error(got)
	}
	if got := w.asked(of(0, api.MaxValue, 999983)).sum(); got != (summed{15999728, 1999966, api.OK}) {
		t.Error(got)
	}
}

// P10.1, P10.2: also of any tables and questions.
func TestSumsAgain(t *testing.T) {
	r := newRandom(1)
	several := 0
	for range 5000 {
		w := r.field()
		got := w.meets()
		if want := (met{meetsAgain(w), api.OK}); !same(got, want) {
			t.Fatal(w, got, want)
		}
		if got, want := w.sum(), printedAgain(w); got != want {
			t.Fatal(w, got, want)
		}
		if n := len(got.ids); n > 1 && n < len(w.l) {
			several++
		}
	}
	if several < 1000 {
		t.Error("too few ask for several", several)
	}
}
