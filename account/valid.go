package account

import "goodname/api"

// need is what reports of a kind need: how much About and Cents may be at most,
// and whether another report is named.
type need struct {
	about, cents int
	of           bool
}

var needs = [...]need{
	api.RepOpened:   {about: api.MaxDay},
	api.RepLimit:    {about: api.MaxDay, cents: api.MaxMoney},
	api.RepOwed:     {about: api.MaxDay, cents: api.MaxMoney},
	api.RepPaid:     {about: api.MaxDay, cents: api.MaxMoney},
	api.RepLate:     {about: api.MaxDay, cents: api.MaxLate},
	api.RepDefault:  {about: api.MaxDay, cents: api.MaxMoney},
	api.RepClosed:   {about: api.MaxDay},
	api.RepCorrect:  {about: api.MaxDay, cents: api.MaxMoney, of: true},
	api.RepWithdraw: {of: true},
}

func within(n, lo, hi int) bool { return lo <= n && n <= hi }

func isFact(r api.Report) bool { return r.Kind <= api.RepClosed }

func reportValid(r api.Report) bool {
	return within(int(r.Kind), api.RepOpened, api.RepWithdraw) &&
		within(r.Id, 0, api.MaxId) &&
		within(r.Source, 0, api.MaxId) &&
		within(r.Account, 0, api.MaxId) &&
		within(r.Made, 0, api.MaxDay) &&
		within(r.About, 0, needs[r.Kind].about) &&
		centsValid(r.Kind, r.Cents) &&
		ofValid(r)
}

func centsValid(kind uint8, cents int) bool { return within(cents, 0, needs[kind].cents) }

func ofValid(r api.Report) bool {
	if !needs[r.Kind].of {
		return r.Of == 0
	}
	return within(r.Of, 0, api.MaxId) && r.Of != r.Id
}

// oneOfEachId tells whether reports that have the same Id are the same.
func oneOfEachId(l []api.Report) bool {
	seen := map[int]api.Report{}
	for _, r := range l {
		if other, ok := seen[r.Id]; ok && other != r {
			return false
		}
		seen[r.Id] = r
	}
	return true
}
