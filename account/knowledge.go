package account

import (
	"iter"
	"slices"

	"goodname/api"
	"goodname/order"
)

// knowledge is what is known on a day. Its store has the reports that are not
// withdrawn.
type knowledge struct {
	store
	withdrawn map[int]int        // the least Id of the withdrawals that work of a report
	corrected map[int]api.Report // the correction that works of a fact
	working   map[int]bool       // the withdrawals and corrections that work
}

func hear(l []api.Report, day int) (knowledge, api.Errno) {
	if e := Check(l); e != api.OK {
		return knowledge{}, e
	}
	if !within(day, 0, api.MaxDay) {
		return knowledge{}, api.ErrArg
	}
	k := knowledge{newStore(l, day), map[int]int{}, map[int]api.Report{}, map[int]bool{}}
	k.withdraw()
	k.correct()
	return k, api.OK
}

// withdraw takes withdrawn reports out after all withdrawals were looked at:
// another withdrawal of the same report works, too.
func (k knowledge) withdraw() {
	for _, w := range k.ofKind(api.RepWithdraw) {
		r, ok := k.named(w)
		if !ok || r.Kind == api.RepWithdraw {
			continue
		}
		k.working[w.Id] = true
		if by, twice := k.withdrawn[r.Id]; !twice || w.Id < by {
			k.withdrawn[r.Id] = w.Id
		}
	}
	for id := range k.withdrawn {
		delete(k.reports, id)
	}
}

// correct comes after withdraw: neither a correction nor a fact that is
// withdrawn is there any more.
func (k knowledge) correct() {
	for _, c := range k.ofKind(api.RepCorrect) {
		r, ok := k.named(c)
		if ok && isFact(r) && centsValid(r.Kind, c.Cents) {
			k.corrected[r.Id] = c
		}
	}
	for _, c := range k.corrected {
		k.working[c.Id] = true
	}
}

// fate returns what became of a report, and by which other one.
func (k knowledge) fate(id int) (fate uint8, by int, e api.Errno) {
	if by, ok := k.withdrawn[id]; ok {
		return api.FateWithdrawn, by, api.OK
	}
	r, ok := k.reports[id]
	if !ok {
		return 0, 0, api.ErrNone
	}
	if c, ok := k.corrected[id]; ok {
		return api.FateCorrected, c.Id, api.OK
	}
	switch {
	case isFact(r):
		return api.FateStands, -1, api.OK
	case k.working[id]:
		return api.FateWorks, -1, api.OK
	}
	return api.FateStray, -1, api.OK
}

// standing yields the facts that stand, as they stand, by About, and of the same
// About by Id.
func (k knowledge) standing() iter.Seq[api.Report] {
	var l []api.Report
	for _, r := range k.reports {
		if !isFact(r) {
			continue
		}
		if c, ok := k.corrected[r.Id]; ok {
			r.About, r.Cents = c.About, c.Cents
		}
		l = append(l, r)
	}
	return slices.Values(order.By(slices.Values(l), aboutOf, idOf))
}

// of returns the facts of an account that stand, with an About of at most a day.
func (k knowledge) of(account, day int) facts {
	var f facts
	for r := range k.standing() {
		if r.Account == account && r.About <= day {
			f = append(f, r)
		}
	}
	return f
}
