package match

import "goodname/api"

func within(n, lo, hi int) bool { return lo <= n && n <= hi }

func rulesValid(r api.Rules) bool {
	return within(r.Letters, 0, api.MaxEdits) &&
		within(r.Digits, 0, api.MaxEdits) &&
		within(r.Days, 0, api.MaxOff) &&
		within(r.Together, 1, api.MaxOff)
}

func recordValid(a api.Record) bool {
	return within(a.Id, 0, api.MaxId) &&
		namesValid(a.Names) &&
		a.Suffix <= api.SuffixJunior &&
		daysValid(a.Born.Lo, a.Born.Hi) &&
		numberValid(a.Number) &&
		staysValid(a.Stays)
}

func namesValid(names []string) bool {
	if !within(len(names), 1, api.MaxWords) {
		return false
	}
	for _, w := range names {
		if !within(len(w), 1, api.MaxWord) || !only(w, 'A', 'Z') {
			return false
		}
	}
	return true
}

func numberValid(n string) bool {
	return n == "" || len(n) == api.MaxNumber && only(n, '0', '9')
}

// only goes by bytes: a word with any letter beyond ASCII has bytes above 'Z'.
func only(w string, lo, hi byte) bool {
	for i := range len(w) {
		if w[i] < lo || w[i] > hi {
			return false
		}
	}
	return true
}

func daysValid(from, to int) bool {
	return within(from, 0, api.MaxDay) && within(to, from, api.MaxDay)
}

func staysValid(stays []api.Stay) bool {
	if len(stays) > api.MaxStays {
		return false
	}
	for _, s := range stays {
		if !within(s.Place, 0, api.MaxPlace) || !daysValid(s.From, s.To) {
			return false
		}
	}
	return true
}

// listError returns the error of a list of records. All records are checked
// before any two of them are, since ErrRecord comes before ErrTwice.
func listError(l []api.Record) api.Errno {
	if len(l) > api.MaxRecords {
		return api.ErrMany
	}
	for _, a := range l {
		if !recordValid(a) {
			return api.ErrRecord
		}
	}
	seen := map[int]bool{}
	for _, a := range l {
		if seen[a.Id] {
			return api.ErrTwice
		}
		seen[a.Id] = true
	}
	return api.OK
}
