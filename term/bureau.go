package term

import (
	"iter"

	"goodname/account"
	"goodname/api"
)

// bureau is the facts on a day, and the laws for them.
type bureau struct {
	api.Code
	day    int
	facts  []api.Report
	laws   map[scope]api.Law
	land   func(id int) (int, bool)
	starts [api.BaseClosed + 1]func(f api.Report) int // by the Base of a law
}

// scope is what a law is for: facts of a kind in a land.
type scope struct {
	land int
	kind uint8
}

// open returns the bureau on a day.
func open(c api.Code, homes []api.Home, l []api.Report, day int) (bureau, api.Errno) {
	if e := Check(c, homes); e != api.OK {
		return bureau{}, e
	}
	facts, e := account.Standing(l, day)
	if e != api.OK {
		return bureau{}, e
	}
	b := bureau{Code: c, day: day, facts: facts, laws: map[scope]api.Law{}, land: landOf(homes), starts: startsOf(facts)}
	for _, w := range b.Laws {
		b.laws[scope{w.Land, w.Kind}] = w
	}
	return b, api.OK
}

// landOf returns the function that tells the land of an account, if it has one.
func landOf(homes []api.Home) func(id int) (int, bool) {
	lands := map[int]int{}
	for _, h := range homes {
		lands[h.Account] = h.Land
	}
	return func(id int) (int, bool) {
		land, ok := lands[id]
		return land, ok
	}
}

// startsOf returns the functions that tell from which day on one of the facts is
// kept.
func startsOf(facts []api.Report) [api.BaseClosed + 1]func(f api.Report) int {
	return [api.BaseClosed + 1]func(f api.Report) int{
		api.BaseAbout:  func(f api.Report) int { return f.About },
		api.BaseMade:   func(f api.Report) int { return f.Made },
		api.BaseClosed: func(f api.Report) int { return least(closings(facts, f.Account)...) },
	}
}

// closings returns the days on which an account was closed, as facts tell: days
// to come, too.
func closings(facts []api.Report, id int) []int {
	var days []int
	for _, f := range facts {
		if f.Kind == api.RepClosed && f.Account == id {
			days = append(days, f.About)
		}
	}
	return days
}

// least returns the least of several days. None is beyond NeverEnds, so that
// days after NeverEnds are NeverEnds again.
func least(days ...int) int {
	first := api.NeverEnds
	for _, d := range days {
		first = min(first, d)
	}
	return first
}

// law returns the law of a fact, if it has one.
func (b bureau) law(f api.Report) (api.Law, bool) {
	land, ok := b.land(f.Account)
	if !ok {
		return api.Law{}, false
	}
	w, ok := b.laws[scope{land, f.Kind}]
	return w, ok
}

// last returns the last day of a fact, if it has a law.
func (b bureau) last(f api.Report) (int, bool) {
	w, ok := b.law(f)
	if !ok {
		return 0, false
	}
	return least(b.starts[w.Base](f) + w.Keep), true
}

// shown yields the facts that are shown, each one with its last day.
func (b bureau) shown() iter.Seq2[api.Report, int] {
	return func(yield func(api.Report, int) bool) {
		for _, f := range b.facts {
			last, ok := b.last(f)
			if ok && f.About <= b.day && b.day <= last && !yield(f, last) {
				return
			}
		}
	}
}
