package inquiry_test

import (
	"math"
	"reflect"
	"slices"
	"testing"

	"goodname/api"
)

// eachList calls a function for each list in a value, outer ones first.
func eachList(v reflect.Value, f func(list reflect.Value)) {
	switch v.Kind() {
	case reflect.Struct:
		for i := range v.NumField() {
			eachList(v.Field(i), f)
		}
	case reflect.Slice:
		f(v)
		for i := range v.Len() {
			eachList(v.Index(i), f)
		}
	}
}

// again makes all lists of a value again, by what makes one of another one.
func again[T any](x T, list func(l reflect.Value) reflect.Value) T {
	eachList(reflect.ValueOf(&x).Elem(), func(l reflect.Value) { l.Set(list(l)) })
	return x
}

func (w world) again(list func(l reflect.Value) reflect.Value) world {
	w.g, w.other, w.l = again(w.g, list), again(w.other, list), again(w.l, list)
	return w
}

func withRoom(l reflect.Value, room int) reflect.Value {
	out := reflect.MakeSlice(l.Type(), l.Len(), l.Len()+room)
	reflect.Copy(out, l)
	return out
}

// exact makes a list that has no room.
func exact(l reflect.Value) reflect.Value { return withRoom(l, 0) }

// roomy makes a list that goes on behind its last element, with the first one, and
// with nothing.
func roomy(l reflect.Value) reflect.Value {
	out := withRoom(l, 2)
	if l.Len() > 0 {
		out.Slice(0, l.Len()+1).Index(l.Len()).Set(l.Index(0))
	}
	return out
}

// whole makes a list of all that is in one, what is behind its last element too.
func whole(l reflect.Value) reflect.Value { return exact(l.Slice(0, l.Cap())) }

// P9.1 to P9.4, R3: no argument is written to, nor what is behind a list's last
// element, and that does not count.
func TestArgumentsAreNotWrittenTo(t *testing.T) {
	r := newRandom(17)
	for range 600 {
		w := r.world()
		want := w.fine(t)
		full := w.again(roomy)
		before := full.again(whole)
		for range 2 {
			if got := full.ask(); !got.is(want) {
				t.Fatal(w, got, want)
			}
		}
		if !reflect.DeepEqual(full.again(whole), before) {
			t.Fatal("written to", w, full)
		}
	}
}

// fill writes to a list, within its capacity too.
func fill[T any](l []T, x T) {
	l = l[:cap(l)]
	for i := range l {
		l[i] = x
	}
}

// P9.1, P9.4, R3: no result shares memory with arguments, not even if all of it
// comes from one of them, and no call remembers another one.
func TestResultsShareNoMemory(t *testing.T) {
	r := newRandom(18)
	for i := range 600 {
		w := r.world()
		switch i % 4 {
		case 0:
			w.other = nil
		case 1:
			w.g.Signals = nil
		case 2:
			w.other = w.g.Signals
		}
		before, want, first := w.again(exact), w.fine(t), w.fine(t)
		fill(first.merge.l, api.Signal{Id: -77})
		fill(first.traces.l, api.Trace{Inquiry: -77})
		full().ask()
		r.world().ask()
		if got := w.ask(); !got.is(want) || !reflect.DeepEqual(w.again(exact), before) {
			t.Fatal(w, got, want)
		}
	}
}

// R4: lists that are nil and that are empty are the same.
func TestNilAndEmpty(t *testing.T) {
	bare := world{q: api.Inquiry{Purpose: api.PurposeSelf}, purpose: api.PurposeSelf}
	for _, w := range []world{bare, bare.with(func(w *world) {
		w.g.Licences, w.g.Signals, w.other, w.l = []api.Licence{}, []api.Signal{}, []api.Signal{}, []api.Inquiry{}
	})} {
		if got := w.fine(t); !got.is(answers{}) {
			t.Error(got)
		}
	}
}

// eachNumber calls a function for each number in a value that can be set.
func eachNumber(v reflect.Value, f func(n reflect.Value)) {
	switch v.Kind() {
	case reflect.Int, reflect.Uint8:
		f(v)
	case reflect.Struct:
		for i := range v.NumField() {
			eachNumber(v.Field(i), f)
		}
	case reflect.Slice:
		for i := range v.Len() {
			eachNumber(v.Index(i), f)
		}
	}
}

// spoilNumber writes any number to one of a value.
func (r random) spoilNumber(v reflect.Value) {
	var l []reflect.Value
	eachNumber(v, func(n reflect.Value) { l = append(l, n) })
	if len(l) == 0 {
		return
	}
	n := pick(r, l...)
	if n.Kind() == reflect.Uint8 {
		n.SetUint(pick[uint64](r, 0, 1, 2, 3, 4, 5, 6, 7, 127, 128, 255))
		return
	}
	n.SetInt(pick[int64](r, -1, 0, 1, 2, 3, 7, 20, api.MaxBureau, api.MaxBureau+1, api.MaxDay, api.MaxDay+1, api.MaxId, api.MaxId+1, math.MinInt, math.MaxInt, 1<<32+1, -1<<32))
}

// spoilList makes one of the lists of a value longer or shorter.
func (r random) spoilList(v reflect.Value) {
	var lists []reflect.Value
	eachList(v, func(l reflect.Value) { lists = append(lists, l) })
	if len(lists) == 0 {
		return
	}
	l := pick(r, lists...)
	n := pick(r, 0, 1, max(l.Len()-1, 0), l.Len()+1, l.Len()+1, 41)
	out := reflect.MakeSlice(l.Type(), n, n)
	for i := reflect.Copy(out, l); i < n && l.Len() > 0; i++ {
		out.Index(i).Set(l.Index(r.Intn(l.Len())))
	}
	l.Set(out)
}

// anything is a world in which some numbers and lists are any.
func (r random) anything() world {
	w := r.world()
	if r.Intn(10) == 0 {
		w.other = r.signals(25 + r.Intn(16))
		for i := range w.other {
			w.other[i].Bureau += 3
		}
	}
	if r.Intn(2) == 0 {
		w.g.Signals, w.l = w.g.Signals[:len(w.g.Signals)/4], w.l[:len(w.l)/4]
	}
	for range pick(r, 0, 1, 1, 1, 2, 3) {
		part := pick(r, reflect.ValueOf(&w.g), reflect.ValueOf(&w.g.Signals), reflect.ValueOf(&w.other), reflect.ValueOf(&w.q), reflect.ValueOf(&w.l), reflect.ValueOf(&w.file), reflect.ValueOf(&w.day), reflect.ValueOf(&w.purpose)).Elem()
		if r.Intn(4) == 0 {
			r.spoilList(part)
		} else {
			r.spoilNumber(part)
		}
		w = w.again(exact)
	}
	return w
}

func inRange(n, lo, hi int) bool { return lo <= n && n <= hi }

// all tells whether something is so of all elements of a list.
func all[T any](l []T, is func(x T) bool) bool {
	return !slices.ContainsFunc(l, func(x T) bool { return !is(x) })
}

// areInOrder tells whether the places of all elements are in order, and none twice.
func areInOrder[T any](l []T, place func(x T) int) bool {
	for i := range l {
		for _, x := range l[i+1:] {
			if place(l[i]) >= place(x) {
				return false
			}
		}
	}
	return true
}

func licencesAreValid(l []api.Licence) bool {
	return len(l) <= 40 && all(l, func(x api.Licence) bool {
		return inRange(x.Who, 0, 999999) && slices.Contains([]uint8{1, 2, 3, 4, 6}, x.Purpose) && x.From >= 0 && x.From <= x.To && x.To <= 100000
	})
}

func signalsAreValid(l []api.Signal) bool {
	return len(l) <= 40 && all(l, func(s api.Signal) bool {
		until := s.Until == 0
		if s.Kind == 3 || s.Kind == 4 {
			until = inRange(s.Until, s.Day, 100000)
		}
		return inRange(s.Bureau, 0, 9) && inRange(s.Id, 0, 999999) && inRange(s.File, 0, 999999) && inRange(s.Day, 0, 100000) && inRange(int(s.Kind), 1, 5) && until
	}) && areInOrder(l, func(s api.Signal) int { return s.Bureau*1000000 + s.Id })
}

func inquiryIsValid(q api.Inquiry) bool {
	return inRange(q.Id, 0, 999999) && inRange(q.Who, 0, 999999) && inRange(q.File, 0, 999999) && inRange(q.Day, 0, 100000) && inRange(int(q.Purpose), 1, 6)
}

func inquiriesAreValid(l []api.Inquiry) bool {
	return len(l) <= 40 && all(l, inquiryIsValid) && areInOrder(l, func(q api.Inquiry) int { return q.Id })
}

// errorUnless is an error unless something is so.
func errorUnless(is bool, e api.Errno) api.Errno {
	if is {
		return api.OK
	}
	return e
}

// first is the first error of some.
func first(l ...api.Errno) api.Errno {
	for _, e := range l {
		if e != api.OK {
			return e
		}
	}
	return api.OK
}

// expected is what all functions have to answer to any arguments.
func expected(w world) answers {
	licences, signals := errorUnless(licencesAreValid(w.g.Licences), api.ErrLicences), errorUnless(signalsAreValid(w.g.Signals), api.ErrSignals)
	check := first(licences, signals)
	arg := errorUnless(inRange(w.file, 0, 999999) && inRange(w.day, 0, 100000), api.ErrArg)
	inquiries := first(check, errorUnless(inquiriesAreValid(w.l), api.ErrInquiry), arg)
	a := answers{
		check:  check,
		state:  state{e: first(signals, arg)},
		became: asked{e: first(check, errorUnless(inquiryIsValid(w.q), api.ErrInquiry))},
		traces: traced{e: first(inquiries, errorUnless(inRange(int(w.purpose), 1, 6), api.ErrArg))},
		count:  counted{e: inquiries},
		merge:  merged{e: first(signals, errorUnless(signalsAreValid(w.other), api.ErrSignals))},
	}
	if a.state.e == api.OK {
		a.state.frozen, a.state.alert = isFrozen(w.g.Signals, w.file, w.day), hasAlert(w.g.Signals, w.file, w.day)
	}
	if a.became.e == api.OK {
		a.became.became = becameAgain(w.g, w.q)
	}
	if a.traces.e == api.OK {
		a.traces.l = tracesAgain(w.g, w.l, w.file, w.day, w.purpose)
	}
	if a.count.e == api.OK {
		a.count.n = countAgain(daysAgain(w))
	}
	if a.merge.e == api.OK {
		a.merge = mergeAgain(w.g.Signals, w.other)
	}
	return a
}

// R1, R2, R5 and R7: whatever the arguments are, each call ends, none panics, and
// beside an error is nothing.
func TestAnyArguments(t *testing.T) {
	r := newRandom(19)
	seen := map[api.Errno]int{}
	for range 12000 {
		w := r.anything()
		got, want := w.ask(), expected(w)
		if !got.is(want) {
			t.Fatal(w, got, want)
		}
		for _, e := range got.errors() {
			seen[e]++
		}
	}
	for _, e := range []api.Errno{api.OK, api.ErrArg, api.ErrMany, api.ErrLicences, api.ErrSignals, api.ErrInquiry} {
		if seen[e] < 100 {
			t.Error("too few", e, seen)
		}
	}
}
