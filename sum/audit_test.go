package sum_test

import (
	"slices"
	"testing"

	"goodname/api"
)

// told is an audit of which is told for each subject either how its value follows,
// or how everybody could count otherwise.
type told struct {
	w    world
	how  map[int]how
	hide map[int][]int
}

func audits() []told {
	return []told{
		{ // Nothing is asked.
			sets(people(3)), nil,
			map[int][]int{1: {1, 0, 0}, 2: {0, 1, 0}, 3: {0, 0, 1}},
		},
		{ // Nobody is asked for.
			sets(people(2), nil, nil), nil,
			map[int][]int{1: {1, 0}, 2: {0, 1}},
		},
		{ // One is asked for alone.
			sets(people(3), []int{2}),
			map[int]how{2: {parts: []int{1}, whole: 1}},
			map[int][]int{1: {1, 0, 0}, 3: {0, 0, 1}},
		},
		{ // Of all, the first one is led.
			sets(people(4), []int{1, 2, 3, 4}), nil,
			map[int][]int{1: {1, -1, 0, 0}, 2: {-1, 1, 0, 0}, 3: {-1, 0, 1, 0}, 4: {-1, 0, 0, 1}},
		},
		{ // Two are led, by one who is free; who is asked for by nobody is free, too.
			sets(people(4), []int{1, 2}, []int{2, 3}), nil,
			map[int][]int{1: {1, -1, 1, 0}, 2: {-1, 1, -1, 0}, 3: {1, -1, 1, 0}, 4: {0, 0, 0, 1}},
		},
		{ // 1 does not depend on 3, which is the first one who is free, but on 5.
			sets(people(5), []int{1, 5}, []int{2, 3}, []int{4, 5}), nil,
			map[int][]int{1: {1, 0, 0, 1, -1}, 2: {0, 1, -1, 0, 0}, 3: {0, -1, 1, 0, 0}, 4: {1, 0, 0, 1, -1}, 5: {-1, 0, 0, -1, 1}},
		},
		{ // 3 is led, and the first one of whom 1 depends; 4 is free.
			sets(people(4), []int{1, 3}, []int{2, 3}, []int{3, 4}), nil,
			map[int][]int{1: {1, 1, -1, 1}, 2: {1, 1, -1, 1}, 3: {-1, -1, 1, -1}, 4: {1, 1, -1, 1}},
		},
		{ // Halves: 4 counts 2 more, so that others count whole numbers more.
			sets(people(4), []int{1, 2, 4}, []int{1, 3}, []int{2, 3}), nil,
			map[int][]int{1: {1, 1, -1, -2}, 2: {1, 1, -1, -2}, 3: {-1, -1, 1, 2}, 4: {-1, -1, 1, 2}},
		},
		{ // The value of one follows, that of others does not.
			sets(people(3), []int{1, 2, 3}, []int{2, 3}),
			map[int]how{1: {parts: []int{1, -1}, whole: 1}},
			map[int][]int{2: {0, 1, -1}, 3: {0, -1, 1}},
		},
		{ // Of triples of four, thirds.
			sets(people(4), []int{2, 3, 4}, []int{1, 3, 4}, []int{1, 2, 4}, []int{1, 2, 3}),
			map[int]how{1: {parts: []int{-2, 1, 1, 1}, whole: 3}, 2: {parts: []int{1, -2, 1, 1}, whole: 3}, 3: {parts: []int{1, 1, -2, 1}, whole: 3}, 4: {parts: []int{1, 1, 1, -2}, whole: 3}},
			nil,
		},
		{ // The same question again, one for nobody, and the sum of two say nothing new.
			sets(people(3), []int{1}, []int{1}, nil, []int{2, 3}, []int{1, 2, 3}, []int{3}),
			map[int]how{1: {parts: []int{1, 0, 0, 0, 0, 0}, whole: 1}, 2: {parts: []int{0, 0, 0, 1, 0, -1}, whole: 1}, 3: {parts: []int{0, 0, 0, 0, 0, 1}, whole: 1}},
			nil,
		},
		{ // The last of four questions follows from the others, without any of them alone.
			sets(people(4), []int{1, 2}, []int{2, 3}, []int{3, 4}, []int{1, 4}, []int{1}),
			map[int]how{1: {parts: []int{0, 0, 0, 0, 1}, whole: 1}, 2: {parts: []int{1, 0, 0, 0, -1}, whole: 1}, 3: {parts: []int{-1, 1, 0, 0, 1}, whole: 1}, 4: {parts: []int{1, -1, 1, 0, -1}, whole: 1}},
			nil,
		},
	}
}

// P10.3 to P10.5: whose values follow, how they do, and how all could count
// otherwise.
func TestAuditsThatAreTold(t *testing.T) {
	for i, x := range audits() {
		var ids []int
		for _, s := range x.w.l {
			w := x.w.about(s.Id)
			way, follows := x.how[s.Id]
			more := hidden{more: x.hide[s.Id]}
			if follows {
				ids, more = append(ids, s.Id), hidden{e: api.ErrNone}
			} else {
				way = how{e: api.ErrNone}
			}
			if got := w.how(); !same(got, way) {
				t.Error(i, s.Id, got)
			}
			if got := w.hide(); !same(got, more) {
				t.Error(i, s.Id, got)
			}
		}
		if got := x.w.deduced(); !same(got, deduced{ids: ids}) {
			t.Error(i, got)
		}
	}
}

// P10.3 to P10.5: what a subject counts changes nothing, nor does how sums are
// rounded, but only who is asked for.
func TestOnlyWhoIsAskedForMatters(t *testing.T) {
	for i, x := range audits() {
		w := x.w.with(func(w *world) {
			w.l, w.audit = slices.Clone(w.l), slices.Clone(w.audit)
			for i, s := range w.l {
				w.l[i].Values = slices.Concat(s.Values[:spread], []int{7 * (3 - i) * (3 - i)})
			}
			for i := range w.audit {
				w.audit[i].Step = 1 + 100*i
				w.audit[i].Column, w.audit[i].Clip = api.Heads, 1
			}
		})
		for _, s := range x.w.l {
			if !same(w.about(s.Id).how(), x.w.about(s.Id).how()) || !same(w.about(s.Id).hide(), x.w.about(s.Id).hide()) || !same(w.deduced(), x.w.deduced()) {
				t.Error(i, s)
			}
		}
	}
}

// P10.4: the parts are those of the questions in their order, also if this is
// another one.
func TestPartsByTheOrderOfQuestions(t *testing.T) {
	for i, x := range []struct {
		l    [][]int
		want how
	}{
		{[][]int{{1, 2}, {2}}, how{parts: []int{1, -1}, whole: 1}},
		{[][]int{{2}, {1, 2}}, how{parts: []int{-1, 1}, whole: 1}},
		{[][]int{{2}, {1, 2}, {1}}, how{parts: []int{-1, 1, 0}, whole: 1}},
		{[][]int{{1}, {2}, {1, 2}}, how{parts: []int{1, 0, 0}, whole: 1}},
		{[][]int{{1, 2}, {1, 3}, {2, 3}, {1}}, how{parts: []int{1, 1, -1, 0}, whole: 2}},
		{[][]int{{1}, {1, 2}, {1, 3}, {2, 3}}, how{parts: []int{1, 0, 0, 0}, whole: 1}},
		{[][]int{{1, 2}, {1, 3}, {1}, {2, 3}}, how{parts: []int{0, 0, 1, 0}, whole: 1}},
		{[][]int{nil, {1, 2, 3}, nil, {2, 3}, nil}, how{parts: []int{0, 1, 0, -1, 0}, whole: 1}},
	} {
		if got := sets(people(3), x.l...).about(1).how(); !same(got, x.want) {
			t.Error(i, got)
		}
	}
}

// P10.5: subjects are in the order of their Ids, whatever their order in the list
// is.
func TestHideByTheOrderOfIds(t *testing.T) {
	w := world{columns: 1, l: []api.Subject{subject(30, 3), subject(10, 1), subject(40, 4), subject(20, 2)}}
	w = w.audited(heads(1, where(0, 1, 3)))
	for id, want := range map[int][]int{10: {1, -1, 0, 0}, 20: {-1, 1, 0, 0}, 30: {-1, 0, 1, 0}, 40: {0, 0, 0, 1}} {
		if got := w.about(id).hide(); !same(got, hidden{more: want}) {
			t.Error(id, got)
		}
	}
}

// P10.3 to P10.5: also of any audits, of which whole numbers are greater.
func TestAuditsAgain(t *testing.T) {
	r := newRandom(2)
	var ways, hides [4]int // by whole, and by the greatest number; 3 and above
	for range 4000 {
		w := r.field()
		if r.Intn(3) > 0 {
			w = r.web(pick(r, r.Intn(9), 7, 8))
		}
		w.id = pick(r, w.id, w.id, w.id, w.id, 77)
		got := w.ask()
		if got.deduced.e != api.OK || !same(got.deduced.ids, deducedAgain(w)) {
			t.Fatal(w, got.deduced)
		}
		if !howIsRight(w, got.how) || !hideIsRight(w, got.hide) {
			t.Fatal(w, got)
		}
		ways[min(got.how.whole, 3)]++
		if got.hide.e == api.OK {
			hides[min(slices.Max(got.hide.more), 3)]++
		}
	}
	if min(ways[1], 20*ways[2], 50*ways[3]) < 500 || min(hides[1], 5*hides[2], 10*hides[3]) < 500 {
		t.Error("too few", ways, hides)
	}
}
