package sum_test

import (
	"math"
	"reflect"
	"slices"
	"testing"

	"goodname/api"
)

// eachList calls a function for each list in a value, outer ones first.
func eachList(v reflect.Value, f func(list reflect.Value)) {
	switch v.Kind() {
	case reflect.Struct:
		for i := range v.NumField() {
			eachList(v.Field(i), f)
		}
	case reflect.Slice:
		f(v)
		for i := range v.Len() {
			eachList(v.Index(i), f)
		}
	}
}

// again makes all lists of a value again, by what makes one of another one.
func again[T any](x T, list func(l reflect.Value) reflect.Value) T {
	eachList(reflect.ValueOf(&x).Elem(), func(l reflect.Value) { l.Set(list(l)) })
	return x
}

func (w world) again(list func(l reflect.Value) reflect.Value) world {
	w.l, w.q, w.audit = again(w.l, list), again(w.q, list), again(w.audit, list)
	return w
}

func withRoom(l reflect.Value, room int) reflect.Value {
	out := reflect.MakeSlice(l.Type(), l.Len(), l.Len()+room)
	reflect.Copy(out, l)
	return out
}

// exact makes a list that has no room.
func exact(l reflect.Value) reflect.Value { return withRoom(l, 0) }

// roomy makes a list that goes on behind its last element, with the first one, and
// with nothing.
func roomy(l reflect.Value) reflect.Value {
	out := withRoom(l, 2)
	if l.Len() > 0 {
		out.Slice(0, l.Len()+1).Index(l.Len()).Set(l.Index(0))
	}
	return out
}

// whole makes a list of all that is in one, what is behind its last element too.
func whole(l reflect.Value) reflect.Value { return exact(l.Slice(0, l.Cap())) }

// P10.1 to P10.5, R3: no argument is written to, nor what is behind a list's last
// element, and that does not count.
func TestArgumentsAreNotWrittenTo(t *testing.T) {
	r := newRandom(13)
	for range 600 {
		w := r.either()
		want := w.fine(t)
		full := w.again(roomy)
		before := full.again(whole)
		for range 2 {
			if got := full.ask(); !got.is(want) {
				t.Fatal(w, got, want)
			}
		}
		if !reflect.DeepEqual(full.again(whole), before) {
			t.Fatal("written to", w, full)
		}
	}
}

// fill writes to a list, within its capacity too.
func fill(l []int) {
	l = l[:cap(l)]
	for i := range l {
		l[i] = -77
	}
}

// R3: no result shares memory with arguments, and no call remembers another one.
func TestResultsShareNoMemory(t *testing.T) {
	r := newRandom(14)
	for range 600 {
		w := r.either()
		before, want, first := w.again(exact), w.fine(t), w.fine(t)
		for _, l := range [][]int{first.meets.ids, first.deduced.ids, first.how.parts, first.hide.more} {
			fill(l)
		}
		full().ask()
		r.either().ask()
		if got := w.ask(); !got.is(want) || !reflect.DeepEqual(w.again(exact), before) {
			t.Fatal(w, got, want)
		}
	}
}

// R4: lists that are nil and that are empty are the same.
func TestNilAndEmpty(t *testing.T) {
	nobody := world{columns: 1, q: heads(1)}
	somebody := nobody.with(func(w *world) { w.l, w.id = []api.Subject{subject(5, 1)}, 5 })
	for i, x := range []struct {
		w    world
		want answers
	}{
		{nobody, answers{sum: summed{bound: 1}, how: how{e: api.ErrNone}, hide: hidden{e: api.ErrNone}}},
		{somebody, answers{meets: met{ids: []int{5}}, sum: summed{1, 1, api.OK}, how: how{e: api.ErrNone}, hide: hidden{more: []int{1}}}},
		{somebody.audited(heads(1)), answers{meets: met{ids: []int{5}}, sum: summed{1, 1, api.OK}, deduced: deduced{ids: []int{5}}, how: how{parts: []int{1}, whole: 1}, hide: hidden{e: api.ErrNone}}},
	} {
		for _, w := range []world{x.w, x.w.again(exact)} {
			if got := w.ask(); !got.is(x.want) {
				t.Error(i, got)
			}
		}
	}
}

// eachNumber calls a function for each number in a value that can be set.
func eachNumber(v reflect.Value, f func(n reflect.Value)) {
	switch v.Kind() {
	case reflect.Int:
		f(v)
	case reflect.Struct:
		for i := range v.NumField() {
			eachNumber(v.Field(i), f)
		}
	case reflect.Slice:
		for i := range v.Len() {
			eachNumber(v.Index(i), f)
		}
	}
}

// spoilNumber writes any number to one of a value.
func (r random) spoilNumber(v reflect.Value) {
	var l []reflect.Value
	eachNumber(v, func(n reflect.Value) { l = append(l, n) })
	if len(l) > 0 {
		pick(r, l...).SetInt(pick[int64](r, -2, -1, 0, 1, 2, 3, 4, 5, 6, api.MaxValue, api.MaxValue+1, api.MaxId, api.MaxId+1, math.MinInt, math.MaxInt, 1<<32+1, -1<<32))
	}
}

// spoilList makes one of the lists of a value longer or shorter.
func (r random) spoilList(v reflect.Value) {
	var lists []reflect.Value
	eachList(v, func(l reflect.Value) { lists = append(lists, l) })
	if len(lists) == 0 {
		return
	}
	l := pick(r, lists...)
	n := pick(r, 0, 1, max(l.Len()-1, 0), l.Len()+1, l.Len()+1, 9, 17)
	out := reflect.MakeSlice(l.Type(), n, n)
	for i := reflect.Copy(out, l); i < n && l.Len() > 0; i++ {
		out.Index(i).Set(l.Index(r.Intn(l.Len())))
	}
	l.Set(out)
}

// anything is a world in which some numbers and lists are any.
func (r random) anything() world {
	w := r.either()
	for range pick(r, 0, 1, 1, 1, 2, 3) {
		part := pick(r, reflect.ValueOf(&w.columns), reflect.ValueOf(&w.l), reflect.ValueOf(&w.q), reflect.ValueOf(&w.q), reflect.ValueOf(&w.audit), reflect.ValueOf(&w.audit), reflect.ValueOf(&w.id)).Elem()
		if r.Intn(4) == 0 {
			r.spoilList(part)
		} else {
			r.spoilNumber(part)
		}
		w = w.again(exact)
	}
	return w
}

func inRange(n, lo, hi int) bool { return lo <= n && n <= hi }

// all tells whether something is so of all elements of a list.
func all[T any](l []T, is func(x T) bool) bool {
	return !slices.ContainsFunc(l, func(x T) bool { return !is(x) })
}

func tableIsValid(w world) bool {
	alone := len(union(idsOf(w.l), nil)) == len(w.l)
	return inRange(w.columns, 1, 5) && len(w.l) <= 16 && alone && all(w.l, func(s api.Subject) bool {
		return inRange(s.Id, 0, 999999) && len(s.Values) == w.columns && all(s.Values, func(n int) bool { return inRange(n, 0, 1000000) })
	})
}

func questionIsValid(columns int, q api.Question) bool {
	if q.Column == -1 {
		if q.Clip != 1 {
			return false
		}
	} else if !inRange(q.Column, 0, columns-1) || !inRange(q.Clip, 1, 1000000) {
		return false
	}
	return inRange(q.Step, 1, 1000000) && len(q.Wheres) <= 4 && all(q.Wheres, func(x api.Where) bool {
		return inRange(x.Column, 0, columns-1) && inRange(x.Lo, 0, 1000000) && inRange(x.Hi, 0, 1000000)
	})
}

func auditIsValid(w world) bool {
	return len(w.audit) <= 8 && all(w.audit, func(q api.Question) bool {
		return questionIsValid(w.columns, q) && q.Column == w.audit[0].Column && q.Clip == w.audit[0].Clip
	})
}

// errorUnless is an error unless something is so.
func errorUnless(is bool, e api.Errno) api.Errno {
	if is {
		return api.OK
	}
	return e
}

// isRight tells whether all functions answer what they have to.
func isRight(w world, got answers) bool {
	if !tableIsValid(w) {
		return got.is(wrongTable())
	}
	question, audit := errorUnless(questionIsValid(w.columns, w.q), api.ErrQuestion), errorUnless(auditIsValid(w), api.ErrAudit)
	want := wrong(api.OK, question, audit)
	if question == api.OK {
		want.meets.ids, want.sum = meetsAgain(w), printedAgain(w)
	}
	if audit == api.OK {
		want.deduced.ids, want.how, want.hide = deducedAgain(w), got.how, got.hide
	}
	return got.is(want) && (audit != api.OK || howIsRight(w, got.how) && hideIsRight(w, got.hide))
}

// R1, R2, R5 and R7: whatever the arguments are, each call ends, none panics, and
// beside an error is nothing.
func TestAnyArguments(t *testing.T) {
	r := newRandom(15)
	seen := map[api.Errno]int{}
	for range 12000 {
		w := r.anything()
		got := w.ask()
		if !isRight(w, got) {
			t.Fatal(w, got)
		}
		for _, e := range got.errors() {
			seen[e]++
		}
	}
	for _, e := range []api.Errno{api.OK, api.ErrNone, api.ErrTable, api.ErrQuestion, api.ErrAudit} {
		if seen[e] < 100 {
			t.Error("too few", e, seen)
		}
	}
}
