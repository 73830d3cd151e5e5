package trial

import (
	"iter"
	"slices"

	"goodname/account"
	"goodname/api"
)

// What became of a person.
const (
	good = iota
	bad
	notKnown
)

// person is an applicant at work.
type person struct {
	api.Applicant
	reports []api.Report
	held    []api.State // of the accounts, on its Day, by what was known on it
}

// people returns applicants at work.
func people(r []api.Report, l []api.Applicant) []person {
	out := make([]person, len(l))
	for i := range len(l) {
		a := person{Applicant: l[i], reports: r}
		a.held = slices.Collect(a.states(a.Day, a.Day))
		out[i] = a
	}
	return out
}

// states yields the states of the accounts on a day, by what is known on another
// one.
func (a person) states(day, known int) iter.Seq[api.State] {
	return func(yield func(api.State) bool) {
		for _, id := range a.Accounts {
			s, e := account.State(a.reports, id, day, known)
			need(e)
			if !yield(s) {
				return
			}
		}
	}
}

// became returns what became of a person after a time, by what is known on a day.
func (a person) became(wait, now int) int {
	end := a.Day + wait
	// A day above MaxDay is always above now, which is at most that.
	if end > now {
		return notKnown
	}
	for s := range a.states(end, now) {
		if s.Is == api.AccountDefault {
			return bad
		}
	}
	return good
}

// count returns how many of the states are one of some.
func (a person) count(is ...uint8) int {
	n := 0
	for _, s := range a.held {
		if slices.Contains(is, s.Is) {
			n++
		}
	}
	return n
}

func (a person) open() int      { return a.count(api.AccountOpen, api.AccountLate) }
func (a person) defaulted() int { return a.count(api.AccountDefault) }

func (a person) owed() int {
	sum := 0
	for _, s := range a.held {
		if s.Owed.Known == api.KnownOpen {
			return api.Missing
		}
		sum += s.Owed.Cents
	}
	return sum
}

func (a person) late() int {
	days := 0
	for _, s := range a.held {
		if s.Late.Known == api.KnownOpen {
			return api.Missing
		}
		days = max(days, s.Late.Cents)
	}
	return days
}

func (a person) age() int {
	var since []int
	for _, s := range a.held {
		if s.Opened.Known != api.KnownNo {
			since = append(since, s.Opened.Since)
		}
	}
	if len(since) == 0 {
		return api.Missing
	}
	return a.Day - least(since[0], since[1:]...)
}

func least(first int, more ...int) int {
	for _, n := range more {
		first = min(first, n)
	}
	return first
}
