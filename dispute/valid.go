package dispute

import (
	"goodname/account"
	"goodname/api"
)

func within(n, lo, hi int) bool { return lo <= n && n <= hi }

// check is something that a desk is checked for, and the error if it does not
// hold.
type check struct {
	holds func() bool
	e     api.Errno
}

// checks are what a desk is checked for. Each one may count on those before it.
func (d desk) checks() [4]check {
	reports := account.Check(d.Reports)
	return [4]check{
		{d.termsValid, api.ErrTerms},
		{func() bool { return reports == api.OK }, reports},
		{d.disputesValid, api.ErrDispute},
		{d.answersValid, api.ErrAnswer},
	}
}

func (d desk) termsValid() bool {
	return within(d.Terms.Answer, 0, api.MaxTerm) &&
		within(d.Terms.Mark, 0, api.MaxDay) &&
		within(d.Terms.Lately, 0, api.MaxDay)
}

func (d desk) disputesValid() bool {
	if len(d.Disputes) > api.MaxDisputes {
		return false
	}
	// What follows of a dispute is a report with its Id.
	taken := map[int]bool{}
	for _, r := range d.Reports {
		taken[r.Id] = true
	}
	for _, x := range d.Disputes {
		if taken[x.Id] || !d.disputeValid(x) {
			return false
		}
		taken[x.Id] = true
	}
	return true
}

// disputeValid sees to it that also silence decides on a day that is one.
func (d desk) disputeValid(x api.Dispute) bool {
	f, ok := d.fact(x.Report)
	return ok && within(x.Id, 0, api.MaxId) && within(x.Day, f.Made, api.MaxDay-d.Terms.Answer-1)
}

func (d desk) answersValid() bool {
	if len(d.Answers) > api.MaxAnswers {
		return false
	}
	taken := map[int]bool{}
	for _, a := range d.Answers {
		if taken[a.Id] || !d.answerValid(a) {
			return false
		}
		taken[a.Id] = true
	}
	return true
}

func (d desk) answerValid(a api.Answer) bool {
	x, ok := find(d.Disputes, func(x api.Dispute) bool { return x.Id == a.Dispute })
	if !ok || !within(a.Id, 0, api.MaxId) || !within(a.Day, 0, api.MaxDay) {
		return false
	}
	switch a.Says {
	case api.AnswerStands, api.AnswerDrops:
		return a.About == 0 && a.Cents == 0
	case api.AnswerFixes:
		// A fact that is fixed is as valid as one that comes like this.
		f, _ := d.fact(x.Report)
		f.About, f.Cents = a.About, a.Cents
		return account.Check([]api.Report{f}) == api.OK
	}
	return false
}

// askedValid tells whether a list of those who were asked is valid.
func askedValid(l []api.Asked) bool {
	if len(l) > api.MaxAsked {
		return false
	}
	for i, a := range l {
		if i > 0 && a.Id <= l[i-1].Id {
			return false
		}
		if !within(a.Id, 0, api.MaxId) || !within(a.Who, 0, api.MaxId) || !within(a.Account, 0, api.MaxId) || !within(a.Day, 0, api.MaxDay) {
			return false
		}
	}
	return true
}
