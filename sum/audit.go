package sum

import (
	"slices"

	"goodname/api"
)

// audit is an audit at work.
type audit struct {
	table
	leads []lead // of all subjects that are led
}

// openAudit returns an audit at work.
func openAudit(columns int, l []api.Subject, questions []api.Question) (audit, api.Errno) {
	t, e := open(columns, l)
	if e != api.OK {
		return audit{}, e
	}
	if !auditValid(columns, questions) {
		return audit{}, api.ErrAudit
	}
	return audit{t, solved(t.equations(questions))}, api.OK
}

// openAbout returns an audit at work, and where the subject with an Id is.
func openAbout(columns int, l []api.Subject, questions []api.Question, id int) (a audit, at int, e api.Errno) {
	a, e = openAudit(columns, l, questions)
	if e != api.OK {
		return audit{}, 0, e
	}
	at, ok := find(a.ids, 0, func(n int) bool { return n == id })
	if !ok {
		return audit{}, 0, api.ErrNone
	}
	return a, at, api.OK
}

// find returns where the first element of a list, from a place on, is of which
// something holds, if there is one.
func find[T any](l []T, from int, holds func(T) bool) (int, bool) {
	for i := from; i < len(l); i++ {
		if holds(l[i]) {
			return i, true
		}
	}
	return 0, false
}

// lead returns the equation of a subject, if it is led.
func (a audit) lead(at int) (lead, bool) {
	i, ok := find(a.leads, 0, func(l lead) bool { return l.subject == at })
	if !ok {
		return lead{}, false
	}
	return a.leads[i], true
}

// deduced returns the Ids of all subjects whose values follow.
func (a audit) deduced() []int {
	var out []int
	for _, l := range a.leads {
		if _, depends := l.depends(); !depends {
			out = append(out, a.ids[l.subject])
		}
	}
	slices.Sort(out)
	return out
}

// how returns how the value of a subject follows, if it does. As whole is the least
// number that clears the parts, no number above 1 divides all of them.
func (a audit) how(at int) (parts []int, whole int, ok bool) {
	l, led := a.lead(at)
	if !led {
		return nil, 0, false
	}
	if _, depends := l.depends(); depends {
		return nil, 0, false
	}
	whole = clearing(l.parts)
	return multiplied(l.parts, whole), whole, true
}

// hide returns by how much everybody could count more with all sums the same, if
// the value of a subject does not follow. As the one who is free counts 1 more, and
// this is cleared by the least number, no number above 1 divides all of them.
func (a audit) hide(at int) ([]int, bool) {
	free := at
	if l, led := a.lead(at); led {
		i, depends := l.depends()
		if !depends {
			return nil, false
		}
		free = i
	}
	more := a.more(free)
	m := clearing(more)
	if more[at].n < 0 {
		m = -m
	}
	return multiplied(more, m), true
}

// more returns by how much everybody counts more if of those who are free just one
// does, by 1, and all sums are the same.
func (a audit) more(free int) []fraction {
	out := digits(1<<free, len(a.ids))
	for _, l := range a.leads {
		out[l.subject] = integer(0).minus(l.factors[free])
	}
	return out
}
