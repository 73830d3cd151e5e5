package dispute

import "goodname/api"

// silence is what an answer says that there is not.
const silence = 0

// verdict is a dispute with what becomes of it.
type verdict struct {
	api.Dispute
	fact    api.Report // the disputed one, as it came
	last    int        // the last day on which an answer counts
	answer  api.Answer // the one that counts, if one does
	becomes uint8
	decided int
}

func idOf(v verdict) int      { return v.Id }
func lastOf(v verdict) int    { return v.last }
func decidedOn(v verdict) int { return v.decided }

// becomes is what becomes of a dispute by what is said.
func becomes() map[uint8]uint8 {
	return map[uint8]uint8{
		silence:          api.DisputeSilent,
		api.AnswerStands: api.DisputeStands,
		api.AnswerFixes:  api.DisputeFixed,
		api.AnswerDrops:  api.DisputeDropped,
	}
}

// decide returns the verdict of a dispute. The answers are in order, so that the
// first one that may count does.
func (d desk) decide(x api.Dispute) verdict {
	v := verdict{Dispute: x, last: x.Day + d.Terms.Answer}
	v.fact, _ = d.fact(x.Report)
	v.decided = v.last + 1
	counts := func(a api.Answer) bool { return a.Dispute == x.Id && within(a.Day, x.Day, v.last) }
	if a, ok := find(d.Answers, counts); ok {
		v.answer, v.decided = a, a.Day
	}
	v.becomes = becomes()[v.answer.Says]
	return v
}

// where returns where the dispute is on a day.
func (v verdict) where(day int) uint8 {
	switch {
	case day < v.Day:
		return api.DisputeNone
	case day < v.decided:
		return api.DisputeOpen
	}
	return v.becomes
}

// report returns what follows of the dispute, if it was decided against the fact.
func (v verdict) report() api.Report {
	r := api.Report{Id: v.Id, Source: v.fact.Source, Account: v.fact.Account, Made: v.decided, Kind: api.RepWithdraw, Of: v.fact.Id}
	if v.becomes == api.DisputeFixed {
		r.Kind, r.About, r.Cents = api.RepCorrect, v.answer.About, v.answer.Cents
	}
	return r
}
