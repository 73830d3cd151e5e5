package clerk

import (
	"slices"

	"goodname/api"
	"goodname/dispute"
	"goodname/file"
	"goodname/inquiry"
	"goodname/term"
)

func bureauValid(b api.Bureau) bool {
	// Count has the errors of the gate, too.
	_, e := inquiry.Count(b.Gate, b.Inquiries, 0, b.Day)
	return within(b.Day, 0, api.MaxDay) &&
		file.Check(b.Rules, b.Records, b.Ops) == api.OK &&
		term.Check(b.Code, b.Homes) == api.OK &&
		dispute.Check(b.Desk) == api.OK &&
		e == api.OK &&
		ownersValid(b.Owners, b.Records) &&
		nothingLater(b) &&
		logValid(b.Log, b.Day)
}

func ownersValid(l []api.Owner, records []api.Record) bool {
	if len(l) > api.MaxOwners {
		return false
	}
	for i, o := range l {
		if !within(o.Account, 0, api.MaxId) || !isRecord(records, o.Record) {
			return false
		}
		if i > 0 && o.Account <= l[i-1].Account {
			return false
		}
	}
	return true
}

// isRecord tells whether one of some records has an Id.
func isRecord(l []api.Record, id int) bool {
	return slices.ContainsFunc(l, func(r api.Record) bool { return r.Id == id })
}

// nothingLater tells whether all that came to a bureau did until its day. Licences
// are given before they begin.
func nothingLater(b api.Bureau) bool {
	return until(b.Day, b.Desk.Reports, func(r api.Report) int { return r.Made }) &&
		until(b.Day, b.Desk.Disputes, func(x api.Dispute) int { return x.Day }) &&
		until(b.Day, b.Desk.Answers, func(a api.Answer) int { return a.Day }) &&
		until(b.Day, b.Gate.Signals, func(s api.Signal) int { return s.Day }) &&
		until(b.Day, b.Inquiries, func(q api.Inquiry) int { return q.Day })
}

// until tells whether the days of all elements of a list are at most one.
func until[T any](day int, l []T, of func(T) int) bool {
	return !slices.ContainsFunc(l, func(x T) bool { return of(x) > day })
}

func logValid(log []api.Entry, day int) bool {
	if len(log) > api.MaxEntries {
		return false
	}
	from := 0
	for _, x := range log {
		if !within(x.Day, from, day) || !isCommand(x) {
			return false
		}
		from = x.Day
	}
	return true
}
