package inquiry

import (
	"slices"

	"goodname/api"
	"goodname/order"
)

// gate is a gate at work.
type gate struct{ api.Gate }

// outcome is what becomes of an inquiry if something holds of it.
type outcome struct {
	becomes uint8
	holds   func(q api.Inquiry) bool
}

// outcomes are those of inquiries, the first one of which that holds counts. The
// last one always does.
func (g gate) outcomes() []outcome {
	return []outcome{
		{api.AskPurpose, g.withoutPurpose},
		{api.AskFrozen, g.frozen},
		{api.AskAlert, g.alerted},
		{api.AskTold, func(api.Inquiry) bool { return true }},
	}
}

// becomes returns what becomes of an inquiry.
func (g gate) becomes(q api.Inquiry) uint8 {
	l := g.outcomes()
	return l[slices.IndexFunc(l, func(o outcome) bool { return o.holds(q) })].becomes
}

func (g gate) withoutPurpose(q api.Inquiry) bool {
	if q.Purpose == api.PurposeSelf {
		return q.Who != q.File
	}
	return !slices.ContainsFunc(g.Licences, func(x api.Licence) bool {
		return x.Who == q.Who && x.Purpose == q.Purpose && within(q.Day, x.From, x.To)
	})
}

func (g gate) frozen(q api.Inquiry) bool {
	switch q.Purpose {
	case api.PurposeCredit, api.PurposeEmploy, api.PurposeMarket:
		return signals(g.Signals).frozen(q.File, q.Day)
	}
	return false
}

func (g gate) alerted(q api.Inquiry) bool {
	asks := q.Purpose == api.PurposeMarket || q.Purpose == api.PurposeCredit && !q.Called
	return asks && signals(g.Signals).alert(q.File, q.Day)
}

// traces returns the traces of a file on a day that are shown for a purpose: all
// that are kept to the person, and of these what was told for credit to others.
func (g gate) traces(l []api.Inquiry, file, day int, purpose uint8) []api.Trace {
	var out []api.Trace
	for _, q := range l {
		if q.File == file && within(q.Day, day-api.KeepTraces, day) {
			out = append(out, api.Trace{Inquiry: q.Id, Who: q.Who, Day: q.Day, Purpose: q.Purpose, Became: g.becomes(q)})
		}
	}
	if purpose != api.PurposeSelf {
		out = slices.DeleteFunc(out, func(t api.Trace) bool {
			return t.Became != api.AskTold || t.Purpose != api.PurposeCredit || t.Day < day-api.KeepHard
		})
	}
	return order.By(slices.Values(out), dayOfTrace, inquiryOf)
}

func dayOfTrace(t api.Trace) int { return t.Day }
func inquiryOf(t api.Trace) int  { return t.Inquiry }

// count returns how many of some traces count, which are by Day.
func count(l []api.Trace) int {
	n, last := 0, 0
	for _, t := range l {
		if n == 0 || t.Day-last > api.CountWindow {
			n, last = n+1, t.Day
		}
	}
	return n
}
