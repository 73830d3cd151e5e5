package trial_test

import (
	"slices"
	"testing"

	"goodname/api"
	"goodname/trial"
)

// fullPlan has as many traits as there may be, one of each kind.
func fullPlan() api.Plan {
	p := api.Plan{Model: cardOf(1, scale(0, 1), scale(0, 1), scale(0, 1), scale(0, 1), scale(0, 1)), Wait: 20}
	for kind := uint8(api.TraitOpen); kind <= api.TraitAge; kind++ {
		p.Traits = append(p.Traits, trait(kind, 7))
	}
	return p
}

func fullPeople() []api.Applicant {
	return []api.Applicant{person(9, 1, 1, 2, 3), person(9, 2, 10, 20, 30, 40), person(8, 0)}
}

func full() world {
	return world{p: fullPlan(), q: fullPlan(), r: exampleReports(), l: fullPeople(), later: fullPeople()}
}

// refused tells whether all functions return an error, wherever the plan or the
// people are, and nothing beside it.
func refused(p api.Plan, l []api.Applicant, want api.Errno) bool {
	w := full()
	w.p, w.l = p, l
	is := w.ask().is(answers{want, valued{e: want}, tallied{e: want}, beside{e: want}, drifted{e: want}, gapped{e: want}})
	second := full()
	second.q, second.later = p, l
	if want == api.ErrPeople {
		return is && second.drift() == drifted{e: want}
	}
	return is && second.both() == beside{e: want}
}

// P7.1: each number of a plan and of people is valid at both ends of what it may
// be, and wrong beyond them, of whatever size and sign (R5).
func TestNumbersOfPlansAndPeople(t *testing.T) {
	for _, x := range []struct {
		name   string
		at     func(p *api.Plan, l []api.Applicant) *int
		lo, hi int
		e      api.Errno
	}{
		{"Need", func(p *api.Plan, l []api.Applicant) *int { return &p.Model.Need }, -api.MaxPoints, api.MaxPoints, api.ErrModel},
		{"Traits", func(p *api.Plan, l []api.Applicant) *int { return &p.Model.Traits }, api.MaxTraits, api.MaxTraits, api.ErrModel},
		{"Wait", func(p *api.Plan, l []api.Applicant) *int { return &p.Wait }, 0, api.MaxDay, api.ErrPlan},
		{"the first Step", func(p *api.Plan, l []api.Applicant) *int { return &p.Traits[0].Step }, 1, api.MaxMoney, api.ErrPlan},
		{"the last Step", func(p *api.Plan, l []api.Applicant) *int { return &p.Traits[4].Step }, 1, api.MaxMoney, api.ErrPlan},
		{"the first Day", func(p *api.Plan, l []api.Applicant) *int { return &l[0].Day }, 0, api.MaxDay, api.ErrPeople},
		{"the last Day", func(p *api.Plan, l []api.Applicant) *int { return &l[2].Day }, 0, api.MaxDay, api.ErrPeople},
		{"the first Group", func(p *api.Plan, l []api.Applicant) *int { return &l[0].Group }, 0, api.MaxGroup, api.ErrPeople},
		{"the last Group", func(p *api.Plan, l []api.Applicant) *int { return &l[2].Group }, 0, api.MaxGroup, api.ErrPeople},
		{"the first account", func(p *api.Plan, l []api.Applicant) *int { return &l[1].Accounts[0] }, 0, 19, api.ErrPeople},
		{"an account between two", func(p *api.Plan, l []api.Applicant) *int { return &l[1].Accounts[1] }, 11, 29, api.ErrPeople},
		{"the last account", func(p *api.Plan, l []api.Applicant) *int { return &l[1].Accounts[3] }, 31, api.MaxId, api.ErrPeople},
	} {
		for _, n := range []int{x.lo, x.hi} {
			p, l := fullPlan(), fullPeople()
			*x.at(&p, l) = n
			if e := trial.Check(p, l); e != api.OK {
				t.Error(x.name, n, e)
			}
		}
		for _, n := range odd(x.lo, x.hi) {
			p, l := fullPlan(), fullPeople()
			*x.at(&p, l) = n
			if !refused(p, l, x.e) {
				t.Error(x.name, n)
			}
		}
	}
}

// P7.1, R6: just the kinds from 1 to 5 are valid, each of them for several traits,
// too.
func TestKindsOfTraits(t *testing.T) {
	for kind := range 256 {
		p := fullPlan()
		p.Traits[3].Kind = uint8(kind)
		if kind >= 1 && kind <= 5 {
			if e := trial.Check(p, fullPeople()); e != api.OK {
				t.Error(kind, e)
			}
		} else if !refused(p, fullPeople(), api.ErrPlan) {
			t.Error(kind)
		}
	}
}

// P7.1: there are as many traits as the model has.
func TestNumberOfTraits(t *testing.T) {
	for traits := 1; traits <= api.MaxTraits; traits++ {
		p := api.Plan{Model: api.Model{Traits: traits}}
		for n := range 8 {
			if n == traits && trial.Check(p, nil) != api.OK || n != traits && !refused(p, nil, api.ErrPlan) {
				t.Error(traits, n)
			}
			p.Traits = append(p.Traits, trait(api.TraitOpen, 1))
		}
	}
	if !refused(api.Plan{}, nil, api.ErrModel) {
		t.Error("a model without traits")
	}
}

// P7.1: people are at most 30, each with at most four accounts in increasing order.
func TestPeople(t *testing.T) {
	for i, x := range []struct {
		l  []api.Applicant
		ok bool
	}{
		{nil, true},
		{make([]api.Applicant, 1), true},
		{make([]api.Applicant, 30), true},
		{make([]api.Applicant, 31), false},
		{make([]api.Applicant, 3000), false},
		{slices.Repeat([]api.Applicant{person(api.MaxDay, api.MaxGroup, 0, 1, 2, api.MaxId)}, 30), true},
		{[]api.Applicant{person(1, 1, 1, 2, 3, 4, 5)}, false},
		{[]api.Applicant{person(1, 1, 1, 2, 3, 3)}, false},
		{[]api.Applicant{person(1, 1, 1, 1, 2, 3)}, false},
		{[]api.Applicant{person(1, 1, 2, 1)}, false},
		{[]api.Applicant{person(1, 1, 1, 3, 2)}, false},
		{[]api.Applicant{person(1, 1, 0, 0)}, false},
		{[]api.Applicant{person(1, 1, api.MaxId, api.MaxId)}, false},
		{[]api.Applicant{person(1, 1, api.MaxId)}, true},
		{append(fullPeople(), person(1, 1, 2, 1)), false},
		{[]api.Applicant{person(1, 1, 7), person(1, 1, 7)}, true},
	} {
		if x.ok && trial.Check(fullPlan(), x.l) != api.OK || !x.ok && !refused(fullPlan(), x.l, api.ErrPeople) {
			t.Error(i)
		}
	}
}

// R1, P7.1: the model comes before all else of the plan, and that before people.
func TestOrderOfCheck(t *testing.T) {
	for i, x := range []struct {
		model, plan, people bool
		e                   api.Errno
	}{
		{true, true, true, api.ErrModel}, {true, true, false, api.ErrModel}, {true, false, true, api.ErrModel}, {true, false, false, api.ErrModel},
		{false, true, true, api.ErrPlan}, {false, true, false, api.ErrPlan}, {false, false, true, api.ErrPeople},
	} {
		p, l := fullPlan(), fullPeople()
		if x.model {
			p.Model.Need = api.MaxPoints + 1
		}
		if x.plan {
			p.Wait = -1
		}
		if x.people {
			l[2].Day = -1
		}
		if !refused(p, l, x.e) {
			t.Error(i)
		}
	}
}

// wrongReports are lists that are no reports, with their errors.
func wrongReports() map[api.Errno][]api.Report {
	return map[api.Errno][]api.Report{
		api.ErrMany:   make([]api.Report, api.MaxReports+1),
		api.ErrReport: {opened(1, 1, 1), {}},
		api.ErrDiffer: {opened(1, 1, 1), opened(1, 1, 2)},
	}
}

// P7.1 to P7.5: the errors of the reports come after those of plans and people, and
// before all others.
func TestErrorsOfReports(t *testing.T) {
	for e, r := range wrongReports() {
		w := full()
		w.r, w.now = r, -1
		got := w.ask()
		got.check = e
		if !got.is(answers{e, valued{e: e}, tallied{e: e}, beside{e: e}, drifted{e: e}, gapped{e: e}}) {
			t.Error(e, got)
		}
		w.l, w.later = nil, nil
		if w.drift() != (drifted{e: e}) || w.gap() != (gapped{e: e}) || w.values().e != e || w.both() != (beside{e: e}) {
			t.Error("nobody", e)
		}
		for _, first := range []func(w *world){
			func(w *world) { w.p.Wait = -1 },
			func(w *world) { w.p.Traits = nil },
		} {
			if got := w.with(first).ask(); !got.is(answers{api.ErrPlan, valued{e: api.ErrPlan}, tallied{e: api.ErrPlan}, beside{e: api.ErrPlan}, drifted{e: api.ErrPlan}, gapped{e: api.ErrPlan}}) {
				t.Error(e, got)
			}
		}
		w.l = []api.Applicant{person(-1, 0)}
		if got := w.ask(); !got.is(answers{api.ErrPeople, valued{e: api.ErrPeople}, tallied{e: api.ErrPeople}, beside{e: api.ErrPeople}, drifted{e: api.ErrPeople}, gapped{e: api.ErrPeople}}) {
			t.Error(e, got)
		}
	}
}

// P7.3: the errors of p and the people come before those of q, and these before
// those of the reports.
func TestErrorsOfBoth(t *testing.T) {
	model := func(p *api.Plan) { p.Model.Traits = 0 }
	wait := func(p *api.Plan) { p.Wait = -1 }
	fine := func(p *api.Plan) {}
	for i, x := range []struct {
		p, q   func(p *api.Plan)
		people bool
		e      api.Errno
	}{
		{model, wait, false, api.ErrModel}, {wait, model, false, api.ErrPlan}, {fine, model, true, api.ErrModel}, {fine, wait, true, api.ErrPlan}, {wait, model, true, api.ErrPlan},
		{fine, model, false, api.ErrPeople}, {fine, fine, false, api.ErrPeople}, {fine, fine, true, api.ErrReport},
	} {
		w := full()
		x.p(&w.p)
		x.q(&w.q)
		w.r = make([]api.Report, 1)
		if !x.people {
			w.l = []api.Applicant{person(0, 0, 2, 1)}
		}
		if got := w.both(); got != (beside{e: x.e}) {
			t.Error(i, got)
		}
	}
}

// P7.4: the errors of the plan, of the people, of the later ones, of the reports,
// and then that one list is empty.
func TestErrorsOfDrift(t *testing.T) {
	wrong := []api.Applicant{person(0, 0, 2, 1)}
	for i, x := range []struct {
		l, later []api.Applicant
		wait     int
		r        []api.Report
		e        api.Errno
	}{
		{wrong, wrong, -1, make([]api.Report, 1), api.ErrPlan},
		{nil, wrong, -1, nil, api.ErrPlan},
		{wrong, nil, 1, make([]api.Report, 1), api.ErrPeople},
		{nil, wrong, 1, make([]api.Report, 1), api.ErrPeople},
		{fullPeople(), make([]api.Applicant, 31), 1, nil, api.ErrPeople},
		{nil, nil, 1, make([]api.Report, 1), api.ErrReport},
		{nil, nil, 1, nil, api.ErrNone},
		{fullPeople(), nil, 1, exampleReports(), api.ErrNone},
		{nil, fullPeople(), 1, exampleReports(), api.ErrNone},
		{[]api.Applicant{}, fullPeople(), 1, exampleReports(), api.ErrNone},
	} {
		w := full()
		w.l, w.later, w.r, w.p.Wait = x.l, x.later, x.r, x.wait
		if got := w.drift(); got != (drifted{e: x.e}) {
			t.Error(i, got)
		}
	}
}

// P7.2, R5: now is a day, and is looked at last; P7.5: a gap needs somebody.
func TestErrorsOfRunAndGap(t *testing.T) {
	w := full()
	for _, n := range odd(0, api.MaxDay) {
		w.now = n
		if got := w.run(); got != (tallied{e: api.ErrArg}) {
			t.Error(n, got)
		}
		nobody := w
		nobody.l = nil
		if got := nobody.run(); got != (tallied{e: api.ErrArg}) {
			t.Error(n, got)
		}
		nobody.r = make([]api.Report, 1)
		if got := nobody.run(); got != (tallied{e: api.ErrReport}) {
			t.Error(n, got)
		}
	}
	for _, n := range []int{0, api.MaxDay} {
		w.now = n
		if got := w.run(); got.e != api.OK || got.Tally == (api.Tally{}) {
			t.Error(n, got)
		}
	}
	w.l = nil
	if got := w.gap(); got != (gapped{e: api.ErrNone}) {
		t.Error(got)
	}
}

// P7.1 to P7.3: lists of nobody are people.
func TestNobody(t *testing.T) {
	w := full()
	w.l = nil
	if got := w.values(); got.e != api.OK || len(got.values) > 0 {
		t.Error(got)
	}
	if got := w.run(); got != (tallied{}) {
		t.Error(got)
	}
	if got := w.both(); got != (beside{}) {
		t.Error(got)
	}
}
