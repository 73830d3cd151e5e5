package sum

import (
	"iter"

	"goodname/api"
)

// equation is that what all subjects count, each times its factor, is together what
// the sums of all questions are, each times its part.
type equation struct{ factors, parts []fraction }

// lead is the equation of a subject that is led. Its factor is 1, and that of each
// earlier subject, and of each other one that is led, is 0: so what it counts
// follows from sums and from what later subjects count that are free.
type lead struct {
	equation
	subject int
}

// equations yields the equations of questions, in their order. One that asks for
// nobody has none, as it says nothing.
func (t table) equations(l []api.Question) iter.Seq[equation] {
	return func(yield func(equation) bool) {
		for i, q := range l {
			asked := t.asked(q)
			if asked != 0 && !yield(equation{digits(asked, len(t.ids)), digits(1<<i, len(l))}) {
				return
			}
		}
	}
}

// digits returns the lowest n bits of a number, the lowest one first.
func digits(bits, n int) []fraction {
	var out []fraction
	for i := range n {
		out = append(out, integer(bits>>i&1))
	}
	return out
}

// solved returns the equations of all subjects that are led. A question that says
// nothing new has no part in any of them.
func solved(equations iter.Seq[equation]) []lead {
	var leads []lead
questions:
	for e := range equations {
		for _, l := range leads {
			e = e.without(l)
			if e.isEmpty() {
				continue questions
			}
		}
		leads = joined(leads, e.lead())
	}
	return leads
}

// joined returns leads with one more. The one more has no subject in it that
// another one leads; its own one is taken out of the others.
func joined(leads []lead, next lead) []lead {
	for i, l := range leads {
		leads[i].equation = l.without(next)
	}
	return append(leads, next)
}

func (e equation) isEmpty() bool {
	_, ok := find(e.factors, 0, fraction.isSome)
	return !ok
}

// lead returns an equation that is not empty as that of its first subject.
func (e equation) lead() lead {
	first, _ := find(e.factors, 0, fraction.isSome)
	n := e.factors[first]
	return lead{equation{divided(e.factors, n), divided(e.parts, n)}, first}
}

func divided(l []fraction, n fraction) []fraction {
	var out []fraction
	for _, f := range l {
		out = append(out, f.by(n))
	}
	return out
}

// without returns an equation less another one so many times that the subject of
// that one is not in it.
func (e equation) without(l lead) equation {
	n := e.factors[l.subject]
	return equation{less(e.factors, n, l.factors), less(e.parts, n, l.parts)}
}

// less returns fractions, each of them less another one n times.
func less(l []fraction, n fraction, others []fraction) []fraction {
	var out []fraction
	for i, f := range l {
		out = append(out, f.minus(n.times(others[i])))
	}
	return out
}

// depends returns the first free subject of which what the subject counts depends,
// if there is one.
func (l lead) depends() (int, bool) { return find(l.factors, l.subject+1, fraction.isSome) }
