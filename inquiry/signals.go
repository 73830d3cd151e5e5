package inquiry

import (
	"iter"
	"slices"

	"goodname/api"
	"goodname/order"
)

// signals are those that a bureau knows, of all files.
type signals []api.Signal

// name is what tells a signal from all others.
type name struct{ bureau, id int }

func nameOf(s api.Signal) name { return name{s.Bureau, s.Id} }

func bureauOf(s api.Signal) int { return s.Bureau }
func idOf(s api.Signal) int     { return s.Id }
func dayOf(s api.Signal) int    { return s.Day }

// join returns the signals of all lists by their names, and whether those with one
// name are the same.
func join(lists ...[]api.Signal) (all map[name]api.Signal, same bool) {
	all, same = map[name]api.Signal{}, true
lists:
	for _, l := range lists {
		for _, s := range l {
			if other, ok := all[nameOf(s)]; ok && other != s {
				same = false
				break lists
			}
			all[nameOf(s)] = s
		}
	}
	return all, same
}

// until yields the signals of a file until a day that are of some kinds.
func (l signals) until(file, day int, kinds ...uint8) iter.Seq[api.Signal] {
	return func(yield func(api.Signal) bool) {
		for _, s := range l {
			if s.File == file && s.Day <= day && slices.Contains(kinds, s.Kind) && !yield(s) {
				return
			}
		}
	}
}

func later(a, b api.Signal) bool { return order.Compare(a, b, dayOf, bureauOf, idOf) > 0 }

// latest returns the element of a sequence that is later than all others, if there
// is one.
func latest[T any](l iter.Seq[T], later func(a, b T) bool) (last T, ok bool) {
	for x := range l {
		if !ok || later(x, last) {
			last, ok = x, true
		}
	}
	return last, ok
}

// frozen tells whether a file is frozen on a day: a freeze holds until a thaw, but
// while a lift that came after it opens the file.
func (l signals) frozen(file, day int) bool {
	last, ok := latest(l.until(file, day, api.SignalFreeze, api.SignalThaw), later)
	if !ok || last.Kind != api.SignalFreeze {
		return false
	}
	for s := range l.until(file, day, api.SignalLift) {
		if later(s, last) && day <= s.Until {
			return false
		}
	}
	return true
}

// alert tells whether a file has an alert on a day. Only the last one counts: if it
// is over, one that came before it is, too.
func (l signals) alert(file, day int) bool {
	last, ok := latest(l.until(file, day, api.SignalAlert, api.SignalClear), later)
	return ok && last.Kind == api.SignalAlert && day <= last.Until
}
