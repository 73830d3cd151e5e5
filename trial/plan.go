package trial

import (
	"goodname/api"
	"goodname/score"
)

// An answer.
const (
	no = iota
	yes
)

// plan is a plan at work.
type plan struct {
	model  api.Model
	traits []trait
	wait   int
}

// trait is a trait at work, with what tells its number of a person.
type trait struct {
	api.Trait
	number func(person) int
}

// numbers is what tells the number of each kind of traits.
func numbers() map[uint8]func(person) int {
	return map[uint8]func(person) int{
		api.TraitOpen:    person.open,
		api.TraitOwed:    person.owed,
		api.TraitLate:    person.late,
		api.TraitDefault: person.defaulted,
		api.TraitAge:     person.age,
	}
}

func open(p api.Plan) plan {
	w := plan{model: p.Model, wait: p.Wait}
	byKind := numbers()
	for _, t := range p.Traits {
		w.traits = append(w.traits, trait{t, byKind[t.Kind]})
	}
	return w
}

// value returns the value of the trait of a person.
func (t trait) value(a person) int {
	n := t.number(a)
	if n == api.Missing {
		return api.Missing
	}
	return least(n/t.Step, api.MaxValue)
}

func (p plan) values(a person) []int {
	var l []int
	for _, t := range p.traits {
		l = append(l, t.value(a))
	}
	return l
}

func (p plan) valuesOf(l []person) [][]int {
	var out [][]int
	for _, a := range l {
		out = append(out, p.values(a))
	}
	return out
}

// ask returns the score of each person, and the answer to each one.
func (p plan) ask(l []person) (scores, answers []int) {
	for _, a := range l {
		n, enough, e := score.Score(p.model, p.values(a))
		need(e)
		answer := no
		if enough {
			answer = yes
		}
		scores, answers = append(scores, n), append(answers, answer)
	}
	return scores, answers
}

func (p plan) scores(l []person) []int {
	scores, _ := p.ask(l)
	return scores
}

func (p plan) answers(l []person) []int {
	_, answers := p.ask(l)
	return answers
}

// tally returns how many became what, of those to whom the answer is yes, and no.
func (p plan) tally(l []person, now int) api.Tally {
	var t [2][3]int // by the answer, and by what became of them
	answers := p.answers(l)
	for i := range len(l) {
		t[answers[i]][l[i].became(p.wait, now)]++
	}
	return api.Tally{Yes: t[yes], No: t[no]}
}

// beside returns how many have two answers, by the one and by the other one.
func beside(a, b []int) [2][2]int {
	var both [2][2]int
	for i := range len(a) {
		both[a[i]][b[i]]++
	}
	return both
}
