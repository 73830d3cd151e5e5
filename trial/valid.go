package trial

import (
	"slices"

	"goodname/api"
)

func within(n, lo, hi int) bool { return lo <= n && n <= hi }

// unless returns an error, unless something holds.
func unless(holds bool, e api.Errno) api.Errno {
	if holds {
		return api.OK
	}
	return e
}

// planValid tells whether a plan is valid, but for its model.
func planValid(p api.Plan) bool {
	invalid := func(t api.Trait) bool { return !traitValid(t) }
	return len(p.Traits) == p.Model.Traits &&
		!slices.ContainsFunc(p.Traits, invalid) &&
		within(p.Wait, 0, api.MaxDay)
}

func traitValid(t api.Trait) bool {
	return within(int(t.Kind), api.TraitOpen, api.TraitAge) && within(t.Step, 1, api.MaxMoney)
}

func peopleValid(l []api.Applicant) bool {
	invalid := func(a api.Applicant) bool { return !applicantValid(a) }
	return len(l) <= api.MaxPeople && !slices.ContainsFunc(l, invalid)
}

func applicantValid(a api.Applicant) bool {
	if !within(a.Day, 0, api.MaxDay) || !within(a.Group, 0, api.MaxGroup) || len(a.Accounts) > api.MaxHeld {
		return false
	}
	next := 0
	for _, id := range a.Accounts {
		if !within(id, next, api.MaxId) {
			return false
		}
		next = id + 1
	}
	return true
}
