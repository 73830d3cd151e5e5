package trial_test

import (
	"cmp"
	"math"
	"reflect"
	"slices"
	"testing"

	"goodname/account"
	"goodname/api"
	"goodname/score"
)

// eachList calls a function for each list in a value, outer ones first.
func eachList(v reflect.Value, f func(list reflect.Value)) {
	switch v.Kind() {
	case reflect.Struct:
		for i := range v.NumField() {
			eachList(v.Field(i), f)
		}
	case reflect.Slice:
		f(v)
		for i := range v.Len() {
			eachList(v.Index(i), f)
		}
	}
}

// again makes all lists of a value again, by what makes one of another one.
func again[T any](x T, list func(l reflect.Value) reflect.Value) T {
	eachList(reflect.ValueOf(&x).Elem(), func(l reflect.Value) { l.Set(list(l)) })
	return x
}

func (w world) again(list func(l reflect.Value) reflect.Value) world {
	return world{again(w.p, list), again(w.q, list), again(w.r, list), again(w.l, list), again(w.later, list), w.now}
}

func withRoom(l reflect.Value, room int) reflect.Value {
	out := reflect.MakeSlice(l.Type(), l.Len(), l.Len()+room)
	reflect.Copy(out, l)
	return out
}

// exact makes a list that has no room.
func exact(l reflect.Value) reflect.Value { return withRoom(l, 0) }

// roomy makes a list that goes on behind its last element, with the first one, and
// with nothing.
func roomy(l reflect.Value) reflect.Value {
	out := withRoom(l, 2)
	if l.Len() > 0 {
		out.Slice(0, l.Len()+1).Index(l.Len()).Set(l.Index(0))
	}
	return out
}

// whole makes a list of all that is in one, what is behind its last element too.
func whole(l reflect.Value) reflect.Value { return exact(l.Slice(0, l.Cap())) }

// P7.1 to P7.5, R3: no argument is written to, nor what is behind a list's last
// element, and that does not count.
func TestArgumentsAreNotWrittenTo(t *testing.T) {
	r := newRandom(16)
	for range 100 {
		w := r.world()
		want := w.fine(t)
		full := w.again(roomy)
		before := full.again(whole)
		for range 2 {
			if got := full.ask(); !got.is(want) {
				t.Fatal(w, got, want)
			}
		}
		if !reflect.DeepEqual(full.again(whole), before) {
			t.Fatal("written to", w, full)
		}
	}
}

// fill writes to a list, within its capacity too.
func fill[T any](l []T, x T) {
	l = l[:cap(l)]
	for i := range l {
		l[i] = x
	}
}

// R3: the values of one share no memory with those of another one, nor with
// arguments, and no call remembers another one.
func TestResultsShareNoMemory(t *testing.T) {
	r := newRandom(17)
	for range 100 {
		w := r.world()
		before, want, first := w.again(exact), w.fine(t), w.fine(t)
		for i, x := range first.values.values {
			fill(x, -77)
			if !same(first.values.values[i+1:], want.values.values[i+1:]) {
				t.Fatal("values share memory", w, i, first)
			}
		}
		fill(first.values.values, nil)
		full().ask()
		r.world().ask()
		world{l: w.l, r: w.r}.ask()
		if got := w.ask(); !got.is(want) || !reflect.DeepEqual(w.again(exact), before) {
			t.Fatal(w, got, want)
		}
	}
}

// R4: lists that are nil and that are empty are the same.
func TestNilAndEmpty(t *testing.T) {
	bare := api.Plan{Model: api.Model{Traits: 1, Cards: []api.Card{{Weight: 1, Scales: []api.Scale{{Points: []int{3}}}}}}, Traits: []api.Trait{trait(api.TraitOpen, 1)}}
	somebody := make([]api.Applicant, 1)
	for i, w := range []world{{}, {p: bare, q: bare}, {p: bare, q: bare, l: somebody}, {p: bare, q: bare, l: somebody, later: somebody}, {p: bare, q: bare, later: somebody}} {
		if a, b := w.ask(), w.again(exact).ask(); !a.is(b) {
			t.Error(i, a, b)
		}
	}
	w := world{p: bare, q: bare, l: somebody, later: somebody}
	want := answers{values: valued{values: [][]int{{0}}}, run: tallied{Tally: api.Tally{Yes: [3]int{1, 0, 0}}}, both: beside{both: [2][2]int{1: {1: 1}}}}
	if got := w.again(exact).ask(); !got.is(want) {
		t.Error(got)
	}
}

// eachNumber calls a function for each number in a value that can be set.
func eachNumber(v reflect.Value, f func(n reflect.Value)) {
	switch v.Kind() {
	case reflect.Int, reflect.Uint8:
		f(v)
	case reflect.Struct:
		for i := range v.NumField() {
			eachNumber(v.Field(i), f)
		}
	case reflect.Slice:
		for i := range v.Len() {
			eachNumber(v.Index(i), f)
		}
	}
}

// spoilNumber writes any number to one of a value.
func (r random) spoilNumber(v reflect.Value) {
	var l []reflect.Value
	eachNumber(v, func(n reflect.Value) { l = append(l, n) })
	if len(l) == 0 {
		return
	}
	n := pick(r, l...)
	if n.Kind() == reflect.Uint8 {
		n.SetUint(pick[uint64](r, 0, 1, 2, 3, 5, 6, 9, 10, 255))
		return
	}
	n.SetInt(pick[int64](r, -1, 0, 1, 2, 7, api.MaxGroup+1, api.MaxDay, api.MaxDay+1, api.MaxId, api.MaxId+1, api.MaxMoney, api.MaxMoney+1, math.MinInt, math.MaxInt, 1<<32+1, -1<<32))
}

// spoilList makes one of the lists of a value longer or shorter.
func (r random) spoilList(v reflect.Value) {
	var all []reflect.Value
	eachList(v, func(l reflect.Value) { all = append(all, l) })
	if len(all) == 0 {
		return
	}
	l := pick(r, all...)
	n := pick(r, 0, 1, l.Len()+1, l.Len()+1, 31, 61)
	out := reflect.MakeSlice(l.Type(), n, n)
	for i := reflect.Copy(out, l); i < n && l.Len() > 0; i++ {
		out.Index(i).Set(l.Index(r.Intn(l.Len())))
	}
	l.Set(out)
}

// anything is a small world, in which some numbers and lists are any. Lists that a
// longer one has twice are made again, so that each number is there once.
func (r random) anything() world {
	w := world{p: r.plan(), q: r.plan(), r: r.reports()[:8], l: r.people(r.Intn(4)), later: r.people(r.Intn(4)), now: r.Intn(storyDays + 12)}
	parts := []reflect.Value{reflect.ValueOf(&w.p), reflect.ValueOf(&w.q), reflect.ValueOf(&w.r), reflect.ValueOf(&w.l), reflect.ValueOf(&w.later), reflect.ValueOf(&w.now)}
	for range pick(r, 0, 1, 1, 1, 2, 3) {
		part := pick(r, parts...).Elem()
		if r.Intn(3) == 0 {
			r.spoilList(part)
		} else {
			r.spoilNumber(part)
		}
		w = w.again(exact)
	}
	return w
}

func inRange(n, lo, hi int) bool { return lo <= n && n <= hi }

// errorOf tells again the error of a plan and people.
func errorOf(p api.Plan, l []api.Applicant) api.Errno {
	if e := score.Check(p.Model); e != api.OK {
		return e
	}
	if len(p.Traits) != p.Model.Traits || !inRange(p.Wait, 0, 100000) {
		return api.ErrPlan
	}
	for _, x := range p.Traits {
		if x.Kind == 0 || x.Kind > 5 || x.Step < 1 || x.Step > 1e12 {
			return api.ErrPlan
		}
	}
	if len(l) > 30 {
		return api.ErrPeople
	}
	for _, a := range l {
		ok := inRange(a.Day, 0, 100000) && inRange(a.Group, 0, 9) && len(a.Accounts) < 5 && slices.IsSorted(a.Accounts)
		for i, id := range a.Accounts {
			ok = ok && inRange(id, 0, 999999) && !slices.Contains(a.Accounts[:i], id)
		}
		if !ok {
			return api.ErrPeople
		}
	}
	return api.OK
}

func errorIf(is bool, e api.Errno) api.Errno {
	if is {
		return e
	}
	return api.OK
}

// expected is what all functions have to answer to any arguments.
func expected(w world) answers {
	first, reports := errorOf(w.p, w.l), account.Check(w.r)
	none := errorIf(len(w.l) == 0, api.ErrNone)
	a := answers{
		check:  first,
		values: valued{e: cmp.Or(first, reports)},
		run:    tallied{e: cmp.Or(first, reports, errorIf(!inRange(w.now, 0, 100000), api.ErrArg))},
		both:   beside{e: cmp.Or(first, errorOf(w.q, w.l), reports)},
		drift:  drifted{e: cmp.Or(first, errorOf(w.p, w.later), reports, none, errorIf(len(w.later) == 0, api.ErrNone))},
		gap:    gapped{e: cmp.Or(first, reports, none)},
	}
	if a.values.e == api.OK {
		for _, x := range w.l {
			a.values.values = append(a.values.values, valuesAgain(w.p, w.r, x))
		}
	}
	if a.run.e == api.OK {
		a.run.Tally = runAgain(w)
	}
	if a.both.e == api.OK {
		a.both.both = bothAgain(w)
	}
	if a.drift.e == api.OK {
		a.drift.drift = driftAgain(w)
	}
	if a.gap.e == api.OK {
		a.gap = gapAgain(w)
	}
	return a
}

// R1, R2, R5 and R7: whatever the arguments are, each call ends, none panics, and
// beside an error is nothing.
func TestAnyArguments(t *testing.T) {
	r := newRandom(18)
	seen := map[api.Errno]int{}
	for range 8000 {
		w := r.anything()
		got, want := w.ask(), expected(w)
		if !got.is(want) {
			t.Fatal(w, got, want)
		}
		for _, e := range []api.Errno{got.check, got.values.e, got.run.e, got.both.e, got.drift.e, got.gap.e} {
			seen[e]++
		}
	}
	for _, e := range []api.Errno{api.OK, api.ErrArg, api.ErrMany, api.ErrNone, api.ErrReport, api.ErrDiffer, api.ErrModel, api.ErrPlan, api.ErrPeople} {
		if seen[e] < 20 {
			t.Error("too few", e, seen)
		}
	}
}
