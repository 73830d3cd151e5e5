package account

import "goodname/api"

// statement is a state at work.
type statement struct{ api.State }

// thing is how facts of a kind tell something: in which field of a state, which
// of them tell one thing together, and whether these agree.
type thing struct {
	tell  func(s *statement, f facts)
	parts func(f facts) []facts
	agree func(f facts) bool
}

func things() [api.RepClosed + 1]thing {
	return [api.RepClosed + 1]thing{
		api.RepOpened:  {(*statement).opened, facts.together, facts.agree},
		api.RepLimit:   {(*statement).limit, facts.byDay, facts.agree},
		api.RepOwed:    {(*statement).owed, facts.byDay, facts.agree},
		api.RepPaid:    {(*statement).paid, facts.byDay, facts.sumsAgree},
		api.RepLate:    {(*statement).late, facts.byDay, facts.agree},
		api.RepDefault: {(*statement).defaulted, facts.together, facts.agree},
		api.RepClosed:  {(*statement).closed, facts.together, facts.agree},
	}
}

func (s *statement) opened(f facts)    { s.Opened = f.told() }
func (s *statement) limit(f facts)     { s.Limit = f.latest().told() }
func (s *statement) owed(f facts)      { s.Owed = f.latest().told() }
func (s *statement) paid(f facts)      { s.Paid = f.paid() }
func (s *statement) late(f facts)      { s.Late = f.latest().told() }
func (s *statement) defaulted(f facts) { s.Default = f.told() }
func (s *statement) closed(f facts)    { s.Closed = f.told() }

// told returns what facts tell together.
func (f facts) told() api.Told {
	if len(f) == 0 {
		return api.Told{}
	}
	t := api.Told{Known: api.KnownOpen, Since: f[0].About, By: f.ids()}
	if f.agree() {
		t.Known, t.Cents = api.KnownYes, f[0].Cents
	}
	return t
}

func (f facts) state() api.State {
	var s statement
	l := things()
	for i := range api.RepClosed {
		kind := uint8(i + 1)
		l[kind].tell(&s, f.ofKind(kind))
	}
	s.Is = s.is(len(f) > 0)
	return s.State
}

// is needs to be told whether there are facts at all: a payment of nothing
// leaves no trace in Paid.
func (s *statement) is(some bool) uint8 {
	switch {
	case s.Closed.Known != api.KnownNo:
		return api.AccountClosed
	case s.Default.Known != api.KnownNo:
		return api.AccountDefault
	case s.Late.Known == api.KnownOpen || s.Late.Cents > 0:
		return api.AccountLate
	case some:
		return api.AccountOpen
	}
	return api.AccountNone
}

func (f facts) clashes() []api.Clash {
	var out []api.Clash
	l := things()
	for i := range api.RepClosed {
		kind := uint8(i + 1)
		for _, part := range l[kind].parts(f.ofKind(kind)) {
			if !l[kind].agree(part) {
				out = append(out, api.Clash{Kind: kind, About: part[0].About, By: part.ids()})
			}
		}
	}
	return out
}
