package inquiry_test

import (
	"slices"
	"testing"

	"goodname/api"
)

// full has as many licences, signals and inquiries as there may be.
func full() world {
	w := world{q: credit(7, 50), file: 5, day: 60, purpose: api.PurposeSelf}
	for i := range api.MaxLicences {
		w.g.Licences = append(w.g.Licences, api.Licence{Who: 900 + i, Purpose: api.PurposeCredit, From: 20, To: 80})
	}
	for i := range api.MaxSignals {
		w.g.Signals = append(w.g.Signals, lift(i/4, 10*(i%4)+5, 50, 70))
	}
	for i := range api.MaxInquiries {
		w.l = append(w.l, credit(20*i+10, 50))
	}
	w.other = w.g.Signals
	return w
}

// three has signals of three bureaus, so that there are others between them.
func three() world {
	return full().with(func(w *world) {
		w.g.Signals = []api.Signal{lift(2, 5, 50, 70), lift(4, 6, 50, 70), lift(6, 5, 50, 70)}
		w.other = nil
	})
}

func TestFullIsValid(t *testing.T) {
	full().fine(t)
	three().fine(t)
}

// wrongLicences tells whether a world has the answers of one with wrong licences:
// what signals tell does not ask for them.
func (w world) wrongLicences() bool {
	a, e := w.ask(), api.ErrLicences
	return same(a, answers{e, mergeAgain(w.g.Signals, w.other), state{isFrozen(w.g.Signals, w.file, w.day), hasAlert(w.g.Signals, w.file, w.day), api.OK}, asked{e: e}, traced{e: e}, counted{e: e}})
}

// wrongSignals tells whether a world has the answers of one with wrong signals,
// whichever of two bureaus has them.
func (w world) wrongSignals() bool {
	a, e := w.ask(), api.ErrSignals
	w.g.Signals, w.other = w.other, w.g.Signals
	return same(a, answers{e, merged{e: e}, state{e: e}, asked{e: e}, traced{e: e}, counted{e: e}}) && same(w.merge(), merged{e: e})
}

// P9.1: each number of a licence is valid at both ends of what it may be, and wrong
// beyond them, of whatever size and sign (R5).
func TestNumbersOfLicences(t *testing.T) {
	for _, at := range []int{0, 17, 39} {
		for _, x := range []struct {
			name   string
			of     func(l *api.Licence) *int
			lo, hi int
		}{
			{"Who", func(l *api.Licence) *int { return &l.Who }, 0, api.MaxId},
			{"From", func(l *api.Licence) *int { return &l.From }, 0, 80},
			{"To", func(l *api.Licence) *int { return &l.To }, 20, api.MaxDay},
		} {
			for _, n := range []int{x.lo, x.hi} {
				w := full()
				*x.of(&w.g.Licences[at]) = n
				if e := w.check(); e != api.OK {
					t.Error(x.name, at, n, e)
				}
			}
			for _, n := range odd(x.lo, x.hi) {
				w := full()
				*x.of(&w.g.Licences[at]) = n
				if !w.wrongLicences() {
					t.Error(x.name, at, n, w.ask())
				}
			}
		}
	}
	for _, l := range []api.Licence{{Purpose: 1, From: api.MaxDay, To: api.MaxDay}, {Purpose: 1}} {
		if w := full().with(func(w *world) { w.g.Licences = []api.Licence{l} }); w.check() != api.OK {
			t.Error(l)
		}
	}
	for _, l := range []api.Licence{{Purpose: 1, From: api.MaxDay + 1, To: api.MaxDay + 1}, {Purpose: 1, From: -1, To: -1}, {Purpose: 1, From: -2, To: -1}} {
		if w := full().with(func(w *world) { w.g.Licences = []api.Licence{l} }); !w.wrongLicences() {
			t.Error(l)
		}
	}
}

// P9.1: there are licences for all purposes but for PurposeSelf.
func TestPurposesOfLicences(t *testing.T) {
	for p := range 256 {
		w := full()
		w.g.Licences[20].Purpose = uint8(p)
		if slices.Contains([]int{1, 2, 3, 4, 6}, p) {
			w.fine(t)
		} else if !w.wrongLicences() {
			t.Error(p, w.ask())
		}
	}
}

// P9.1: licences are at most 40, in any order, and may be there twice.
func TestLicences(t *testing.T) {
	l := licence(3, 1)
	for i, x := range []struct {
		l  []api.Licence
		ok bool
	}{
		{nil, true},
		{[]api.Licence{l, l}, true},
		{[]api.Licence{licence(4, 1), licence(3, 1)}, true},
		{slices.Repeat([]api.Licence{l}, 40), true},
		{slices.Repeat([]api.Licence{l}, 41), false},
		{slices.Repeat([]api.Licence{l}, 3000), false},
		{make([]api.Licence, 1), false},
		{append(slices.Repeat([]api.Licence{l}, 39), api.Licence{}), false},
		{[]api.Licence{l, {Who: -1, Purpose: 1}, l}, false},
	} {
		w := full().with(func(w *world) { w.g.Licences = x.l })
		if x.ok && w.check() != api.OK || !x.ok && !w.wrongLicences() {
			t.Error(i, w.ask())
		}
	}
}

// P9.1: likewise each number of a signal. One that is as the one before or behind it
// is wrong, too.
func TestNumbersOfSignals(t *testing.T) {
	for _, x := range []struct {
		name   string
		w      func() world
		at     int
		of     func(s *api.Signal) *int
		lo, hi int
	}{
		{"Bureau of the first one", three, 0, func(s *api.Signal) *int { return &s.Bureau }, 0, 4},
		{"Bureau of one between two", three, 1, func(s *api.Signal) *int { return &s.Bureau }, 2, 5},
		{"Bureau of the last one", three, 2, func(s *api.Signal) *int { return &s.Bureau }, 5, 9},
		{"Id of the first one of a bureau", full, 0, func(s *api.Signal) *int { return &s.Id }, 0, 14},
		{"Id of one between two", full, 5, func(s *api.Signal) *int { return &s.Id }, 6, 24},
		{"Id of the last one of a bureau", full, 3, func(s *api.Signal) *int { return &s.Id }, 26, api.MaxId},
		{"Id of the last one of all", full, 39, func(s *api.Signal) *int { return &s.Id }, 26, api.MaxId},
		{"Id of the first one of the next bureau", full, 4, func(s *api.Signal) *int { return &s.Id }, 0, 14},
		{"Id of the only one of a bureau", three, 1, func(s *api.Signal) *int { return &s.Id }, 0, api.MaxId},
		{"File of the first one", full, 0, func(s *api.Signal) *int { return &s.File }, 0, api.MaxId},
		{"File of the last one", full, 39, func(s *api.Signal) *int { return &s.File }, 0, api.MaxId},
		{"Day of the first one", full, 0, func(s *api.Signal) *int { return &s.Day }, 0, 70},
		{"Day of the last one", full, 39, func(s *api.Signal) *int { return &s.Day }, 0, 70},
		{"Until of the first one", full, 0, func(s *api.Signal) *int { return &s.Until }, 50, api.MaxDay},
		{"Until of the last one", full, 39, func(s *api.Signal) *int { return &s.Until }, 50, api.MaxDay},
	} {
		for _, n := range []int{x.lo, x.hi} {
			w := x.w()
			*x.of(&w.g.Signals[x.at]) = n
			if e := w.check(); e != api.OK {
				t.Error(x.name, n, e)
			}
		}
		for _, n := range odd(x.lo, x.hi) {
			w := x.w()
			w.other = nil
			*x.of(&w.g.Signals[x.at]) = n
			if !w.wrongSignals() {
				t.Error(x.name, n, w.ask())
			}
		}
	}
}

// P9.1: a lift and an alert have an Until, all other kinds have none; there are no
// others.
func TestKindsOfSignals(t *testing.T) {
	for kind := range 256 {
		for _, day := range []int{0, 50, api.MaxDay} {
			for _, until := range append([]int{0, 1, day - 1, day, day + 1, api.MaxDay, api.MaxDay + 1}, odd(0, api.MaxDay)...) {
				s := api.Signal{Bureau: 1, Id: 2, File: 3, Day: day, Kind: uint8(kind), Until: until}
				w := full().with(func(w *world) { w.g.Signals, w.other = []api.Signal{s}, nil })
				ok := slices.Contains([]int{1, 2, 5}, kind) && until == 0
				if kind == api.SignalLift || kind == api.SignalAlert {
					ok = until >= day && until <= 100000
				}
				if ok && w.check() != api.OK || !ok && !w.wrongSignals() {
					t.Error(s, w.ask())
				}
			}
		}
	}
	for _, s := range []api.Signal{thaw(0, 0, -1), thaw(0, 0, api.MaxDay+1), lift(0, 0, -1, 0), alert(0, 0, api.MaxDay+1, api.MaxDay+1)} {
		if w := full().with(func(w *world) { w.g.Signals, w.other = []api.Signal{s}, nil }); !w.wrongSignals() {
			t.Error(s, w.ask())
		}
	}
}

// P9.1: signals are at most 40, by Bureau, and of the same Bureau by Id, no two with
// the same of both; whatever their days and files are.
func TestSignals(t *testing.T) {
	thaws := func(n int) []api.Signal {
		var l []api.Signal
		for i := range n {
			l = append(l, thaw(0, i, 5))
		}
		return l
	}
	for i, x := range []struct {
		l  []api.Signal
		ok bool
	}{
		{nil, true},
		{thaws(1), true},
		{thaws(40), true},
		{thaws(41), false},
		{thaws(3000), false},
		{make([]api.Signal, 1), false},
		{make([]api.Signal, 41), false},
		{[]api.Signal{thaw(1, 1, 5), thaw(1, 2, 5), thaw(2, 1, 5)}, true},
		{[]api.Signal{thaw(1, 1, 9), thaw(1, 2, 5), thaw(2, 1, 1)}, true},
		{[]api.Signal{ofFile(9, thaw(1, 1, 5)), thaw(1, 2, 5)}, true},
		{[]api.Signal{thaw(1, 7, 5), thaw(2, 7, 5)}, true},
		{[]api.Signal{thaw(1, 9, 5), thaw(2, 1, 5), thaw(2, 2, 5)}, true},
		{[]api.Signal{thaw(1, 1, 5), thaw(2, 1, 5), thaw(1, 2, 5)}, false},
		{[]api.Signal{thaw(1, 2, 5), thaw(1, 1, 5)}, false},
		{[]api.Signal{thaw(1, 2, 5), thaw(1, 1, 6)}, false},
		{[]api.Signal{thaw(2, 1, 5), thaw(1, 2, 5)}, false},
		{[]api.Signal{thaw(1, 1, 5), thaw(1, 1, 5)}, false},
		{[]api.Signal{thaw(1, 1, 5), ofFile(9, thaw(1, 1, 5))}, false},
		{[]api.Signal{thaw(1, 1, 5), freeze(1, 1, 6)}, false},
		{[]api.Signal{thaw(1, 1, 5), thaw(1, 2, 5), thaw(1, 2, 5)}, false},
		{[]api.Signal{thaw(1, 1, 5), {}, thaw(1, 2, 5)}, false},
		{append(thaws(39), api.Signal{Bureau: 1}), false},
	} {
		w := full().with(func(w *world) { w.g.Signals, w.other = x.l, nil })
		if x.ok && w.check() != api.OK || !x.ok && !w.wrongSignals() {
			t.Error(i, w.ask())
		}
	}
}

// R1: licences come before signals, these before inquiries, and all of them before
// what is asked for.
func TestOrderOfErrors(t *testing.T) {
	wrong := func(w *world) { w.q, w.l, w.file, w.day, w.purpose = api.Inquiry{}, make([]api.Inquiry, 1), -1, -1, 0 }
	both := full()
	both.g.Licences, both.g.Signals = make([]api.Licence, 1), make([]api.Signal, 1)
	for _, w := range []world{both, both.with(wrong)} {
		e := api.ErrLicences
		want := answers{e, merged{e: api.ErrSignals}, state{e: api.ErrSignals}, asked{e: e}, traced{e: e}, counted{e: e}}
		if got := w.ask(); !got.is(want) {
			t.Error(got)
		}
	}
	both.g.Licences = nil
	if !both.wrongSignals() || !both.with(wrong).wrongSignals() {
		t.Error(both.ask(), both.with(wrong).ask())
	}
	w := full().with(wrong)
	want := answers{api.OK, merged{l: w.other}, state{e: api.ErrArg}, asked{e: api.ErrInquiry}, traced{e: api.ErrInquiry}, counted{e: api.ErrInquiry}}
	if got := w.ask(); !got.is(want) {
		t.Error(got)
	}
}

// P9.3, P9.4: each number of an inquiry is valid at both ends of what it may be, and
// wrong beyond them, be it asked or one of a list.
func TestNumbersOfInquiries(t *testing.T) {
	for _, x := range []struct {
		name   string
		at     int
		of     func(q *api.Inquiry) *int
		lo, hi int
	}{
		{"Id of one that is asked", -1, func(q *api.Inquiry) *int { return &q.Id }, 0, api.MaxId},
		{"Who of it", -1, func(q *api.Inquiry) *int { return &q.Who }, 0, api.MaxId},
		{"File of it", -1, func(q *api.Inquiry) *int { return &q.File }, 0, api.MaxId},
		{"Day of it", -1, func(q *api.Inquiry) *int { return &q.Day }, 0, api.MaxDay},
		{"the first Id", 0, func(q *api.Inquiry) *int { return &q.Id }, 0, 29},
		{"an Id between two", 7, func(q *api.Inquiry) *int { return &q.Id }, 131, 169},
		{"the last Id", 39, func(q *api.Inquiry) *int { return &q.Id }, 771, api.MaxId},
		{"Who of the first one", 0, func(q *api.Inquiry) *int { return &q.Who }, 0, api.MaxId},
		{"Who of the last one", 39, func(q *api.Inquiry) *int { return &q.Who }, 0, api.MaxId},
		{"File of the first one", 0, func(q *api.Inquiry) *int { return &q.File }, 0, api.MaxId},
		{"File of the last one", 39, func(q *api.Inquiry) *int { return &q.File }, 0, api.MaxId},
		{"Day of the first one", 0, func(q *api.Inquiry) *int { return &q.Day }, 0, api.MaxDay},
		{"Day of the last one", 39, func(q *api.Inquiry) *int { return &q.Day }, 0, api.MaxDay},
	} {
		for _, n := range append([]int{x.lo, x.hi}, odd(x.lo, x.hi)...) {
			w, e := full(), api.OK
			if n != x.lo && n != x.hi {
				e = api.ErrInquiry
			}
			if x.at >= 0 {
				*x.of(&w.l[x.at]) = n
			} else {
				*x.of(&w.q) = n
			}
			got, want := w.ask().errors(), [6]api.Errno{}
			if x.at >= 0 {
				want[4], want[5] = e, e
			} else {
				want[3] = e
			}
			if got != want || e != api.OK && x.at < 0 && w.became() != (asked{e: e}) || e != api.OK && x.at >= 0 && (len(w.traces().l) > 0 || w.count().n > 0) {
				t.Error(x.name, n, w.ask())
			}
		}
	}
}

// P9.3, P9.4: inquiries, and traces, are for the purposes from 1 to 6.
func TestPurposes(t *testing.T) {
	for p := range 256 {
		var inquiry, shown api.Errno
		if p < 1 || p > 6 {
			inquiry, shown = api.ErrInquiry, api.ErrArg
		}
		asking := full()
		asking.q.Purpose = uint8(p)
		listed := full()
		listed.l[3].Purpose = uint8(p)
		if asking.became().e != inquiry || listed.traces().e != inquiry || listed.count().e != inquiry {
			t.Error(p, asking.became(), listed.traces(), listed.count())
		}
		if got := full().shownFor(uint8(p)); got.traces().e != shown || shown != api.OK && len(got.traces().l) > 0 || got.count().e != api.OK {
			t.Error(p, got.traces(), got.count())
		}
		if got := listed.shownFor(uint8(p)).traces(); got.e != inquiry {
			t.Error(p, got)
		}
	}
}

// P9.4: inquiries are at most 40, by Id, no two with the same one; whatever their
// days are.
func TestInquiries(t *testing.T) {
	credits := func(n int) []api.Inquiry {
		var l []api.Inquiry
		for i := range n {
			l = append(l, credit(i, 50))
		}
		return l
	}
	for i, x := range []struct {
		l  []api.Inquiry
		ok bool
	}{
		{nil, true},
		{credits(1), true},
		{credits(40), true},
		{credits(41), false},
		{credits(3000), false},
		{make([]api.Inquiry, 1), false},
		{make([]api.Inquiry, 41), false},
		{[]api.Inquiry{credit(1, 9), credit(2, 5), credit(3, 7)}, true},
		{[]api.Inquiry{credit(2, 5), credit(1, 5)}, false},
		{[]api.Inquiry{credit(2, 5), credit(1, 6)}, false},
		{[]api.Inquiry{credit(2, 5), credit(2, 5)}, false},
		{[]api.Inquiry{credit(2, 5), credit(2, 9)}, false},
		{[]api.Inquiry{credit(1, 5), credit(2, 5), credit(1, 5)}, false},
		{[]api.Inquiry{credit(1, 5), credit(3, 5), credit(2, 5)}, false},
		{[]api.Inquiry{credit(1, 5), {}, credit(2, 5)}, false},
		{append(credits(39), api.Inquiry{Id: 50}), false},
	} {
		w, e := full().with(func(w *world) { w.l = x.l }), api.OK
		if !x.ok {
			e = api.ErrInquiry
		}
		if got := w.ask().errors(); got != [6]api.Errno{4: e, 5: e} {
			t.Error(i, got)
		}
	}
}

// P9.2, P9.4, R5: files and days that are asked for are numbers of files and days,
// and wrong ones are seen whatever else is there.
func TestFilesAndDays(t *testing.T) {
	want := [6]api.Errno{2: api.ErrArg, 4: api.ErrArg, 5: api.ErrArg}
	bare := world{q: credit(0, 0), purpose: 1}
	for _, w := range []world{full(), bare} {
		for _, n := range []int{0, api.MaxId} {
			w.with(func(w *world) { w.file = n }).fine(t)
		}
		for _, n := range []int{0, api.MaxDay} {
			w.on(n).fine(t)
		}
		for _, n := range odd(0, api.MaxId) {
			a := w.with(func(w *world) { w.file = n }).ask()
			if a.errors() != want || a.state.frozen || a.state.alert || len(a.traces.l) > 0 || a.count.n != 0 {
				t.Error(n, a)
			}
		}
		for _, n := range odd(0, api.MaxDay) {
			a := w.on(n).ask()
			if a.errors() != want || a.state.frozen || a.state.alert || len(a.traces.l) > 0 || a.count.n != 0 {
				t.Error(n, a)
			}
		}
	}
}
