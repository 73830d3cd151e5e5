package match

import "goodname/api"

// question is asked of two records: if it holds, it tells whether they are one
// person's.
type question struct {
	one   uint8
	holds func(m api.Match, a, b person) bool
}

// questions returns what is asked of two records, one after the other: what
// excludes them comes before what makes them one person's.
func questions() []question {
	return []question{
		{api.KnownNo, bornApart},
		{api.KnownNo, seniorAndJunior},
		{api.KnownNo, namesApart},
		{api.KnownNo, numbersApart},
		{api.KnownNo, twins},
		{api.KnownYes, oneNumber},
		{api.KnownYes, oneLife},
	}
}

func decide(m api.Match, a, b person) uint8 {
	for _, q := range questions() {
		if q.holds(m, a, b) {
			return q.one
		}
	}
	return api.KnownOpen
}

func bornApart(m api.Match, a, b person) bool { return m.Born == api.AgreeNot }

func seniorAndJunior(m api.Match, a, b person) bool {
	return a.Suffix == api.SuffixSenior && b.Suffix == api.SuffixJunior ||
		a.Suffix == api.SuffixJunior && b.Suffix == api.SuffixSenior
}

func namesApart(m api.Match, a, b person) bool {
	return m.Names == api.AgreeNot && m.Number != api.AgreeSame
}

func numbersApart(m api.Match, a, b person) bool {
	return m.Number == api.AgreeNot && m.Place != api.AgreeSame
}

func twins(m api.Match, a, b person) bool {
	return (a.Twin || b.Twin) && m.Number != api.AgreeSame && m.Names != api.AgreeSame
}

func oneNumber(m api.Match, a, b person) bool {
	return m.Number == api.AgreeSame && (m.Names == api.AgreeSame || m.Names == api.AgreeLike)
}

// oneLife leaves the numbers out: they may not be known, and a twin may have
// all else in common with the other one.
func oneLife(m api.Match, a, b person) bool {
	seen := api.Match{Names: m.Names, Born: m.Born, Place: m.Place}
	same := api.Match{Names: api.AgreeSame, Born: api.AgreeSame, Place: api.AgreeSame}
	return seen == same && !a.Twin && !b.Twin
}
