package term

import (
	"slices"

	"goodname/account"
	"goodname/api"
)

// view returns what is shown of an account. It is made of the facts that are
// shown and of nothing else, so that nothing else can be deduced from it.
func (b bureau) view(id int) (api.View, api.Errno) {
	var facts []api.Report
	var ids, lasts []int
	for f, last := range b.shown() {
		if f.Account == id {
			facts = append(facts, f)
			ids = append(ids, f.Id)
			lasts = append(lasts, last)
		}
	}
	// With facts that stand, what is wrong can only be the account.
	s, e := account.State(facts, id, b.day, b.day)
	if e != api.OK {
		return api.View{}, e
	}
	slices.Sort(ids)
	v := api.View{State: s, Shown: ids, Ends: least(least(lasts...) + 1)}
	if still, ok := b.still(id); ok {
		b.fallSilent(&v, facts, still)
	}
	return v, api.OK
}

// still returns what silence means for an account, if its land tells that.
func (b bureau) still(id int) (api.Still, bool) {
	land, ok := b.land(id)
	if !ok {
		return api.Still{}, false
	}
	i := slices.IndexFunc(b.Stills, func(s api.Still) bool { return s.Land == land })
	if i < 0 {
		return api.Still{}, false
	}
	return b.Stills[i], true
}

// fallSilent changes the view of facts of which none was made lately.
func (b bureau) fallSilent(v *api.View, facts []api.Report, still api.Still) {
	if len(facts) == 0 || v.State.Closed.Known != api.KnownNo {
		return
	}
	heard := 0
	for _, f := range facts {
		heard = max(heard, f.Made)
	}
	silence := heard + still.Days
	if b.day <= silence {
		return
	}
	v.Silent = true
	meanings()[still.Means](&v.State, silence)
}

// meanings are what silence changes in a state, from a day on.
func meanings() map[uint8]func(s *api.State, day int) {
	return map[uint8]func(s *api.State, day int){
		api.StillNothing: func(*api.State, int) {},
		api.StillClosed:  closed,
		api.StillPaid:    paid,
	}
}

func closed(s *api.State, day int) {
	s.Closed = api.Told{Known: api.KnownYes, Since: day}
	s.Is = api.AccountClosed
}

// paid leaves Is as it was: that an account was late or in default is not changed
// by what is owed.
func paid(s *api.State, day int) {
	s.Owed = api.Told{Known: api.KnownYes, Since: day}
}
