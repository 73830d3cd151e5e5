package ring_test

import (
	"math"
	"reflect"
	"slices"
	"testing"

	"goodname/api"
)

// eachList calls a function for each list in a value, outer ones first.
func eachList(v reflect.Value, f func(list reflect.Value)) {
	switch v.Kind() {
	case reflect.Struct:
		for i := range v.NumField() {
			eachList(v.Field(i), f)
		}
	case reflect.Slice:
		f(v)
		for i := range v.Len() {
			eachList(v.Index(i), f)
		}
	}
}

// again makes all lists of a value again, by what makes one of another one.
func again[T any](x T, list func(l reflect.Value) reflect.Value) T {
	eachList(reflect.ValueOf(&x).Elem(), func(l reflect.Value) { l.Set(list(l)) })
	return x
}

func (w world) again(list func(l reflect.Value) reflect.Value) world {
	w.l, w.good = again(w.l, list), again(w.good, list)
	return w
}

func withRoom(l reflect.Value, room int) reflect.Value {
	out := reflect.MakeSlice(l.Type(), l.Len(), l.Len()+room)
	reflect.Copy(out, l)
	return out
}

// exact makes a list that has no room.
func exact(l reflect.Value) reflect.Value { return withRoom(l, 0) }

// roomy makes a list that goes on behind its last element, with the first one, and
// with nothing.
func roomy(l reflect.Value) reflect.Value {
	out := withRoom(l, 2)
	if l.Len() > 0 {
		out.Slice(0, l.Len()+1).Index(l.Len()).Set(l.Index(0))
	}
	return out
}

// whole makes a list of all that is in one, what is behind its last element too.
func whole(l reflect.Value) reflect.Value { return exact(l.Slice(0, l.Cap())) }

// P8.1 to P8.5, R3: no argument is written to, nor what is behind a list's last
// element, and that does not count.
func TestArgumentsAreNotWrittenTo(t *testing.T) {
	r := newRandom(15)
	for range 200 {
		w := r.either(24)
		want := w.fine(t)
		full := w.again(roomy)
		before := full.again(whole)
		for range 2 {
			if got := full.ask(); !got.is(want) {
				t.Fatal(w, got, want)
			}
		}
		if !reflect.DeepEqual(full.again(whole), before) {
			t.Fatal("written to", w, full)
		}
	}
}

// fill writes to a list, within its capacity too.
func fill[T any](l []T, x T) {
	l = l[:cap(l)]
	for i := range l {
		l[i] = x
	}
}

// R3: a ring shares no memory with another one, nor any result with arguments, and
// no call remembers another one.
func TestResultsShareNoMemory(t *testing.T) {
	r := newRandom(16)
	several := 0
	for range 300 {
		w := r.either(24)
		before, want, first := w.again(exact), w.fine(t), w.fine(t)
		for i, g := range first.rings.rings {
			fill(g, -77)
			if !same(first.rings.rings[i+1:], want.rings.rings[i+1:]) {
				t.Fatal("rings share memory", w, i, first)
			}
			if i > 0 {
				several++
			}
		}
		fill(first.rings.rings, nil)
		fill(first.apart.group, -77)
		fill(first.why.chain, api.Tie{})
		full().ask()
		r.either(24).ask()
		if got := w.ask(); !got.is(want) || !reflect.DeepEqual(w.again(exact), before) {
			t.Fatal(w, got, want)
		}
	}
	if several < 50 {
		t.Error("too few rings", several)
	}
}

// R4: lists that are nil and that are empty are the same.
func TestNilAndEmpty(t *testing.T) {
	bare := world{h: exampleHunt(), b: 1, strength: 1}
	for i, l := range [][]api.Filing{nil, {{}}, {{}, {Id: 1}}} {
		w := bare
		w.l = l
		if a, b := w.ask(), w.again(exact).ask(); !a.is(b) {
			t.Error(i, a, b)
		}
	}
	bare.l = []api.Filing{{}, {Id: 1}}
	want := answers{why: told{e: api.ErrNone}, apart: apart{group: []int{0}}, tune: tuned{strength: 1}}
	if got := bare.again(exact).ask(); !got.is(want) {
		t.Error(got)
	}
}

// eachNumber calls a function for each number in a value that can be set.
func eachNumber(v reflect.Value, f func(n reflect.Value)) {
	switch v.Kind() {
	case reflect.Int:
		f(v)
	case reflect.Struct:
		for i := range v.NumField() {
			eachNumber(v.Field(i), f)
		}
	case reflect.Slice:
		for i := range v.Len() {
			eachNumber(v.Index(i), f)
		}
	}
}

// spoilNumber writes any number to one of a value.
func (r random) spoilNumber(v reflect.Value) {
	var l []reflect.Value
	eachNumber(v, func(n reflect.Value) { l = append(l, n) })
	if len(l) > 0 {
		pick(r, l...).SetInt(pick[int64](r, -1, 0, 1, 2, 3, 7, api.MaxFilings, api.MaxFilings+1, api.MaxStrength, api.MaxStrength+1, api.MaxDay, api.MaxDay+1, api.MaxId, api.MaxId+1, math.MinInt, math.MaxInt, 1<<32+1, -1<<32))
	}
}

// spoilList makes one of the lists of a value longer or shorter.
func (r random) spoilList(v reflect.Value) {
	var lists []reflect.Value
	eachList(v, func(l reflect.Value) { lists = append(lists, l) })
	if len(lists) == 0 {
		return
	}
	l := pick(r, lists...)
	n := pick(r, 0, 1, max(l.Len()-1, 0), l.Len()+1, l.Len()+1, 25)
	out := reflect.MakeSlice(l.Type(), n, n)
	for i := reflect.Copy(out, l); i < n && l.Len() > 0; i++ {
		out.Index(i).Set(l.Index(r.Intn(l.Len())))
	}
	l.Set(out)
}

// anything is a small world, in which some numbers and lists are any. Lists that a
// longer one has twice are made again, so that each number is there once.
func (r random) anything() world {
	w := r.either(7)
	parts := []reflect.Value{reflect.ValueOf(&w.h), reflect.ValueOf(&w.l), reflect.ValueOf(&w.l), reflect.ValueOf(&w.a), reflect.ValueOf(&w.b), reflect.ValueOf(&w.strength), reflect.ValueOf(&w.good), reflect.ValueOf(&w.most)}
	for range pick(r, 0, 1, 1, 1, 2, 3) {
		part := pick(r, parts...).Elem()
		if r.Intn(3) == 0 {
			r.spoilList(part)
		} else {
			r.spoilNumber(part)
		}
		w = w.again(exact)
	}
	return w
}

func inRange(n, lo, hi int) bool { return lo <= n && n <= hi }

// inOrder tells whether numbers are from 0 to MaxId, in order, and none twice.
func inOrder(l []int) bool {
	for i, n := range l {
		if !inRange(n, 0, 999999) || slices.Contains(l[:i], n) {
			return false
		}
	}
	return slices.IsSorted(l)
}

// errorOf tells again the error of a hunt and filings.
func errorOf(h api.Hunt, l []api.Filing) api.Errno {
	if !inRange(h.Window, 0, 100000) || !inRange(h.Common, 2, 24) || !inRange(h.Size, 2, 24) {
		return api.ErrHunt
	}
	if len(l) > 24 || !inOrder(idsOf(l)) {
		return api.ErrFilings
	}
	for _, f := range l {
		if !inRange(f.Day, 0, 100000) || len(f.Parts) > 6 || !inOrder(f.Parts) {
			return api.ErrFilings
		}
	}
	return api.OK
}

// errorOfTwo tells again the error of two Ids of filings.
func errorOfTwo(ids []int, a, b int) api.Errno {
	if !slices.Contains(ids, a) || !slices.Contains(ids, b) {
		return api.ErrNone
	}
	if a == b {
		return api.ErrArg
	}
	return api.OK
}

func errorIf(is bool, e api.Errno) api.Errno {
	if is {
		return e
	}
	return api.OK
}

// expected is what all functions have to answer to any arguments.
func expected(w world) answers {
	if e := errorOf(w.h, w.l); e != api.OK {
		return all(e)
	}
	ids := idsOf(w.l)
	two := errorOfTwo(ids, w.a, w.b)
	a := answers{weight: weight{e: two}, why: told{e: two}}
	if two == api.OK {
		at := func(id int) api.Filing { return w.l[slices.Index(ids, id)] }
		a.weight.n = weightAgain(w, at(w.a), at(w.b))
		a.why = whyAgain(w)
	}
	a.rings.e = errorIf(!inRange(w.strength, 1, 6001), api.ErrArg)
	if a.rings.e == api.OK {
		a.rings.rings = ringsAgain(w, weightsAgain(w), w.strength)
	}
	switch {
	case !slices.Contains(ids, w.a):
		a.apart.e = api.ErrNone
	case a.rings.e != api.OK:
		a.apart.e = a.rings.e
	default:
		a.apart = apartAgain(w)
	}
	a.tune.e = errorIf(!inOrder(w.good) || !within(w.good, ids) || !inRange(w.most, 0, 24), api.ErrArg)
	if a.tune.e == api.OK {
		a.tune = tuneAgain(w)
	}
	return a
}

// R1, R2, R5 and R7: whatever the arguments are, each call ends, none panics, and
// beside an error is nothing.
func TestAnyArguments(t *testing.T) {
	r := newRandom(17)
	seen := map[api.Errno]int{}
	for range 6000 {
		w := r.anything()
		got, want := w.ask(), expected(w)
		if !got.is(want) {
			t.Fatal(w, got, want)
		}
		for _, e := range []api.Errno{got.check, got.weight.e, got.rings.e, got.why.e, got.apart.e, got.tune.e} {
			seen[e]++
		}
	}
	for _, e := range []api.Errno{api.OK, api.ErrArg, api.ErrNone, api.ErrHunt, api.ErrFilings} {
		if seen[e] < 100 {
			t.Error("too few", e, seen)
		}
	}
}
