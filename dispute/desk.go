package dispute

import (
	"iter"
	"slices"

	"goodname/api"
	"goodname/order"
)

// desk is a desk at work on a day.
type desk struct {
	api.Desk
	day      int
	verdicts []verdict // by the days on which they are decided, and of the same one by Id
}

// open returns the desk on a day.
func open(d api.Desk, day int) (desk, api.Errno) {
	if e := Check(d); e != api.OK {
		return desk{}, e
	}
	if !within(day, 0, api.MaxDay) {
		return desk{}, api.ErrArg
	}
	w := desk{Desk: d, day: day}
	w.Answers = order.By(slices.Values(d.Answers), dayOfAnswer, idOfAnswer)
	for _, x := range w.Disputes {
		w.verdicts = append(w.verdicts, w.decide(x))
	}
	w.verdicts = order.By(slices.Values(w.verdicts), decidedOn, idOf)
	return w, api.OK
}

func dayOfAnswer(a api.Answer) int { return a.Day }
func idOfAnswer(a api.Answer) int  { return a.Id }

// find returns the first thing of a list that is what one looks for.
func find[T any](l []T, is func(T) bool) (T, bool) {
	i := slices.IndexFunc(l, is)
	if i < 0 {
		var none T
		return none, false
	}
	return l[i], true
}

// fact returns the fact with an Id, as it came.
func (d desk) fact(id int) (api.Report, bool) {
	return find(d.Reports, func(r api.Report) bool { return r.Id == id && r.Kind <= api.RepClosed })
}

// changes yields the disputes that were decided until the day against their
// facts, by the days on which they were, and of the same one by Id.
func (d desk) changes() iter.Seq[verdict] {
	return func(yield func(verdict) bool) {
		for _, v := range d.verdicts {
			if v.decided <= d.day && v.becomes != api.DisputeStands && !yield(v) {
				return
			}
		}
	}
}

// follow returns the reports, and what follows of disputes.
func (d desk) follow() ([]api.Report, api.Errno) {
	l := slices.Clone(d.Reports)
	for v := range d.changes() {
		l = append(l, v.report())
	}
	if len(l) > api.MaxReports {
		return nil, api.ErrFull
	}
	return l, api.OK
}

// mark returns the mark of a fact: an open dispute comes before all others.
func (d desk) mark(fact int) uint8 {
	mark := uint8(api.DisputeNone)
	for _, v := range d.verdicts {
		if v.Report != fact {
			continue
		}
		switch v.where(d.day) {
		case api.DisputeOpen:
			return api.DisputeOpen
		case api.DisputeStands:
			if d.day-v.decided <= d.Terms.Mark {
				mark = api.DisputeStands
			}
		}
	}
	return mark
}
