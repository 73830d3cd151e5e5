package inquiry_test

import (
	"fmt"
	"math"
	"math/rand"
	"slices"
	"testing"

	"goodname/api"
	"goodname/inquiry"
	"goodname/order"
)

// The signals that follow are of the file 5.

func freeze(bureau, id, day int) api.Signal {
	return api.Signal{Bureau: bureau, Id: id, File: 5, Day: day, Kind: api.SignalFreeze}
}

func thaw(bureau, id, day int) api.Signal {
	return api.Signal{Bureau: bureau, Id: id, File: 5, Day: day, Kind: api.SignalThaw}
}

func lift(bureau, id, day, until int) api.Signal {
	return api.Signal{Bureau: bureau, Id: id, File: 5, Day: day, Kind: api.SignalLift, Until: until}
}

func alert(bureau, id, day, until int) api.Signal {
	return api.Signal{Bureau: bureau, Id: id, File: 5, Day: day, Kind: api.SignalAlert, Until: until}
}

func clearing(bureau, id, day int) api.Signal {
	return api.Signal{Bureau: bureau, Id: id, File: 5, Day: day, Kind: api.SignalClear}
}

// ofFile is a signal of another file.
func ofFile(file int, s api.Signal) api.Signal {
	s.File = file
	return s
}

// licence is one from the first day to the last one.
func licence(who int, purpose uint8) api.Licence {
	return api.Licence{Who: who, Purpose: purpose, To: api.MaxDay}
}

// credit is an inquiry for the file 5 by 900.
func credit(id, day int) api.Inquiry {
	return api.Inquiry{Id: id, Day: day, Who: 900, File: 5, Purpose: api.PurposeCredit}
}

func bureauOf(s api.Signal) int { return s.Bureau }
func idOf(s api.Signal) int     { return s.Id }

// sorted puts signals in the order of a list.
func sorted(l ...api.Signal) []api.Signal { return order.By(slices.Values(l), bureauOf, idOf) }

// merged, state, asked, traced and counted are what functions answer.
type merged struct {
	l []api.Signal
	e api.Errno
}

type state struct {
	frozen, alert bool
	e             api.Errno
}

type asked struct {
	became uint8
	e      api.Errno
}

type traced struct {
	l []api.Trace
	e api.Errno
}

type counted struct {
	n int
	e api.Errno
}

// world is all that calls are about. The signals of the gate are merged with those
// of another bureau.
type world struct {
	g         api.Gate
	other     []api.Signal
	q         api.Inquiry
	l         []api.Inquiry
	file, day int
	purpose   uint8
}

func (w world) check() api.Errno { return inquiry.Check(w.g) }

func (w world) merge() merged {
	l, e := inquiry.Merge(w.g.Signals, w.other)
	return merged{l, e}
}

func (w world) state() state {
	frozen, alert, e := inquiry.State(w.g.Signals, w.file, w.day)
	return state{frozen, alert, e}
}

func (w world) became() asked {
	n, e := inquiry.Ask(w.g, w.q)
	return asked{n, e}
}

func (w world) traces() traced {
	l, e := inquiry.Traces(w.g, w.l, w.file, w.day, w.purpose)
	return traced{l, e}
}

func (w world) count() counted {
	n, e := inquiry.Count(w.g, w.l, w.file, w.day)
	return counted{n, e}
}

// with returns a world that is changed. Lists of it are to be put, not written to.
func (w world) with(f func(w *world)) world {
	f(&w)
	return w
}

// on is a world that is asked about a day.
func (w world) on(day int) world {
	w.day = day
	return w
}

// shownFor is a world that is asked for a purpose.
func (w world) shownFor(purpose uint8) world {
	w.purpose = purpose
	return w
}

// answers are all that the functions answer.
type answers struct {
	check  api.Errno
	merge  merged
	state  state
	became asked
	traces traced
	count  counted
}

func (w world) ask() answers {
	return answers{w.check(), w.merge(), w.state(), w.became(), w.traces(), w.count()}
}

func (a answers) is(b answers) bool { return same(a, b) }

// errors are those of all answers.
func (a answers) errors() [6]api.Errno {
	return [6]api.Errno{a.check, a.merge.e, a.state.e, a.became.e, a.traces.e, a.count.e}
}

// fine calls all functions for a world of which all is valid, and returns what they
// answer.
func (w world) fine(t *testing.T) answers {
	t.Helper()
	got := w.ask()
	if got.errors() != [6]api.Errno{} {
		t.Fatal(w, got.errors())
	}
	return got
}

// same compares by what is printed, where a nil list and an empty one are the
// same.
func same(a, b any) bool { return fmt.Sprint(a) == fmt.Sprint(b) }

// odd are numbers that are not what a field takes, of whatever size: some are
// valid ones in fewer bits.
func odd(lo, hi int) []int {
	return []int{lo - 1, hi + 1, math.MinInt, math.MaxInt, math.MinInt + 1, math.MaxInt - 1, 1<<48 + lo, -(1 << 48) + hi, -1 << 31, 1<<32 + hi}
}

// purposes are all that there are.
func purposes() []uint8 {
	return []uint8{api.PurposeCredit, api.PurposeReview, api.PurposeEmploy, api.PurposeCourt, api.PurposeSelf, api.PurposeMarket}
}

// random makes gates and inquiries of a few files, people and days.
type random struct{ *rand.Rand }

func newRandom(seed int64) random { return random{rand.New(rand.NewSource(seed))} }

func pick[T any](r random, l ...T) T { return l[r.Intn(len(l))] }

// signals are n ones, with days until 20, of which each file has about a third.
func (r random) signals(n int) []api.Signal {
	var l []api.Signal
	for _, i := range r.Perm(3 * n)[:n] {
		s := api.Signal{Bureau: i % 3, Id: i / 3, File: 5 + r.Intn(3), Day: r.Intn(21), Kind: pick[uint8](r, 1, 2, 3, 4, 4, 5)}
		if s.Kind == api.SignalLift || s.Kind == api.SignalAlert {
			s.Until = s.Day + r.Intn(9)
		}
		l = append(l, s)
	}
	return sorted(l...)
}

// part are n of some signals, in their order.
func (r random) part(l []api.Signal, n int) []api.Signal {
	var out []api.Signal
	for _, i := range r.Perm(len(l))[:n] {
		out = append(out, l[i])
	}
	return sorted(out...)
}

// licences are those of 900 and 901 for some purposes, most of them on all days.
func (r random) licences() []api.Licence {
	var l []api.Licence
	for range 2 + r.Intn(12) {
		x := licence(pick(r, 900, 900, 901), pick[uint8](r, 1, 1, 1, 2, 3, 4, 6))
		if r.Intn(3) == 0 {
			x.From = r.Intn(15)
			x.To = x.From + r.Intn(15)
		}
		l = append(l, x)
	}
	return l
}

// inquiry is one of a few people for a few files; persons ask for their own ones.
func (r random) inquiry(id int) api.Inquiry {
	q := api.Inquiry{Id: id, Day: r.Intn(22), Who: pick(r, 900, 900, 900, 900, 900, 901, 5), File: 5 + r.Intn(3), Purpose: pick[uint8](r, 1, 1, 1, 1, 2, 3, 4, 5, 6), Called: r.Intn(3) == 0}
	if q.Purpose == api.PurposeSelf && r.Intn(3) > 0 {
		q.Who = q.File
	}
	return q
}

// inquiries are n ones. Their days are at the ends of spans of which traces are
// kept and shown, before 22 or in the middle.
func (r random) inquiries(n int) []api.Inquiry {
	var l []api.Inquiry
	for id := range n {
		q := r.inquiry(2*id + r.Intn(2))
		q.Day += pick(r, 0, 0, 0, 10, 20, 365, 730)
		l = append(l, q)
	}
	return l
}

func (r random) world() world {
	w := world{
		g:       api.Gate{Licences: r.licences(), Signals: r.signals(r.Intn(21))},
		q:       r.inquiry(r.Intn(100)),
		l:       r.inquiries(r.Intn(41)),
		file:    5 + r.Intn(3),
		day:     pick(r, r.Intn(25), 20+r.Intn(25), 20+r.Intn(365), 365+r.Intn(25), 730+r.Intn(25)),
		purpose: pick(r, append(purposes(), 5, 5, 5)...),
	}
	known := map[[2]int]bool{}
	for _, s := range w.g.Signals {
		known[[2]int{s.Bureau, s.Id}] = true
	}
	for _, s := range r.signals(r.Intn(20)) {
		if !known[[2]int{s.Bureau, s.Id}] {
			w.other = append(w.other, s)
		}
	}
	for _, s := range w.g.Signals {
		if r.Intn(3) == 0 {
			w.other = append(w.other, s)
		}
	}
	w.other = sorted(w.other...)
	return w
}
