package match

import "goodname/api"

func compare(r api.Rules, a, b person) api.Match {
	m := api.Match{
		Names:  namesAgree(r, a, b),
		Number: numbersAgree(r, a, b),
		Born:   birthsAgree(r, a, b),
		Place:  placesAgree(r, a, b),
	}
	m.One = decide(m, a, b)
	return m
}

func namesAgree(r api.Rules, a, b person) uint8 {
	if len(a.Names) > len(b.Names) {
		a, b = b, a
	}
	like := func(x, y string) bool { return likeWords(r.Letters, x, y) }
	// A family's word that is a single letter is no initial: it is held
	// against the other one by equality, and by edits, alone.
	switch {
	case a.family() == b.family() && followed(a, b, sameWords):
		return api.AgreeSame
	case edits(a.family(), b.family()) <= r.Letters && followed(a, b, like):
		return api.AgreeLike
	}
	return api.AgreeNot
}

// followed tells whether the given names of few fit given names of many, in
// their order. To take the first name that fits is enough: a later one would
// leave no more names for those that come after it.
func followed(few, many person, fit func(x, y string) bool) bool {
	rest := few.Names[1:]
	for name := range many.given() {
		if len(rest) > 0 && fit(rest[0], name) {
			rest = rest[1:]
		}
	}
	return len(rest) == 0
}

func numbersAgree(r api.Rules, a, b person) uint8 {
	switch {
	case a.Number == "" || b.Number == "":
		return api.AgreeOpen
	case a.Number == b.Number:
		return api.AgreeSame
	case unlikeDigits(a.Number, b.Number) <= r.Digits:
		return api.AgreeLike
	}
	return api.AgreeNot
}

func birthsAgree(r api.Rules, a, b person) uint8 {
	switch {
	case a.Born == b.Born && a.Born.Lo == a.Born.Hi:
		return api.AgreeSame
	case a.Born.Lo-b.Born.Hi <= r.Days && b.Born.Lo-a.Born.Hi <= r.Days:
		return api.AgreeOpen
	}
	return api.AgreeNot
}

func placesAgree(r api.Rules, a, b person) uint8 {
	for _, s := range a.Stays {
		for _, t := range b.places[s.Place] {
			if daysInCommon(s, t) >= r.Together {
				return api.AgreeSame
			}
		}
	}
	return api.AgreeOpen
}

// daysInCommon returns the days of both stays: from the later From to the
// earlier To, so that the least of all four distances is the one that counts.
// It is not above 0 if there are none.
func daysInCommon(s, t api.Stay) int {
	return least(s.To-s.From, s.To-t.From, t.To-s.From, t.To-t.From) + 1
}
