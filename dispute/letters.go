package dispute

import (
	"slices"

	"goodname/account"
	"goodname/api"
	"goodname/order"
)

// history is the facts that stand on days.
type history map[int][]api.Report

// history returns the facts that stand on the days of those who were asked, and
// on those on which disputes are decided.
func (d desk) history(asked []api.Asked) (history, api.Errno) {
	l, e := d.follow()
	if e != api.OK {
		return nil, e
	}
	var days []int
	for _, a := range asked {
		days = append(days, a.Day)
	}
	for v := range d.changes() {
		days = append(days, v.decided)
	}
	h := history{}
	for _, day := range days {
		facts, e := account.Standing(l, day)
		if e != api.OK {
			return nil, e
		}
		h[day] = facts
	}
	return h, api.OK
}

// toldWrong returns the entries by which the fact of a dispute was told wrongly,
// in their order.
func (d desk) toldWrong(v verdict, asked []api.Asked, h history) []api.Asked {
	var out []api.Asked
days:
	for _, a := range asked {
		if a.Account != v.fact.Account || !within(v.decided-a.Day, 1, d.Terms.Lately) {
			continue
		}
		for _, f := range h[a.Day] {
			if f.Id != v.fact.Id {
				continue
			}
			// It was not told yet, or what was told is so still.
			if f.About > a.Day || slices.Contains(h[v.decided], f) {
				continue days
			}
			out = append(out, a)
		}
	}
	return out
}

// letters returns the letters that are due: one of each dispute to each Who, by
// the first entry.
func (d desk) letters(asked []api.Asked) ([]api.Letter, api.Errno) {
	h, e := d.history(asked)
	if e != api.OK {
		return nil, e
	}
	first := map[[2]int]int{} // by the dispute and Who
	for v := range d.changes() {
		for _, a := range d.toldWrong(v, asked, h) {
			to := [2]int{v.Id, a.Who}
			if _, ok := first[to]; !ok {
				first[to] = a.Id
			}
		}
	}
	var out []api.Letter
	for to, id := range first {
		out = append(out, api.Letter{Dispute: to[0], Who: to[1], Asked: id})
	}
	return order.By(slices.Values(out), disputeOf, whoOf), api.OK
}

func disputeOf(l api.Letter) int { return l.Dispute }
func whoOf(l api.Letter) int     { return l.Who }
