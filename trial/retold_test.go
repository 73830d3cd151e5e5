package trial_test

import (
	"math/big"
	"slices"

	"goodname/account"
	"goodname/api"
	"goodname/score"
)

// What follows tells again, as directly as can be, what the chapter defines.

// statesOf are the states of accounts on a day, by what is known on a day.
func statesOf(r []api.Report, accounts []int, day, known int) []api.State {
	var l []api.State
	for _, id := range accounts {
		s, e := account.State(r, id, day, known)
		if e != api.OK {
			panic(e)
		}
		l = append(l, s)
	}
	return l
}

// each collects a number of each state for which there is one.
func each(l []api.State, number func(s api.State) (int, bool)) []int {
	var out []int
	for _, s := range l {
		if n, ok := number(s); ok {
			out = append(out, n)
		}
	}
	return out
}

// numberOf is the number of a kind of traits, -1 if it is missing.
func numberOf(kind uint8, day int, l []api.State) int {
	switch kind {
	case 1:
		return len(each(l, func(s api.State) (int, bool) { return 0, s.Is == 1 || s.Is == 2 }))
	case 2:
		sum := 0
		for _, n := range each(l, func(s api.State) (int, bool) { return s.Owed.Cents, true }) {
			sum += n
		}
		if slices.ContainsFunc(l, func(s api.State) bool { return s.Owed.Known == 1 }) {
			return -1
		}
		return sum
	case 3:
		if slices.ContainsFunc(l, func(s api.State) bool { return s.Late.Known == 1 }) {
			return -1
		}
		return slices.Max(append(each(l, func(s api.State) (int, bool) { return s.Late.Cents, true }), 0))
	case 4:
		return len(each(l, func(s api.State) (int, bool) { return 0, s.Is == 3 }))
	}
	since := each(l, func(s api.State) (int, bool) { return s.Opened.Since, s.Opened.Known > 0 })
	if len(since) == 0 {
		return -1
	}
	return day - slices.Min(since)
}

func valuesAgain(p api.Plan, r []api.Report, a api.Applicant) []int {
	var x []int
	for _, t := range p.Traits {
		n := numberOf(t.Kind, a.Day, statesOf(r, a.Accounts, a.Day, a.Day))
		if n != -1 {
			n = min(n/t.Step, 1000000)
		}
		x = append(x, n)
	}
	return x
}

// answerAgain is the score of an applicant, and 1 if the answer is yes.
func answerAgain(p api.Plan, r []api.Report, a api.Applicant) (int, int) {
	n, yes, e := score.Score(p.Model, valuesAgain(p, r, a))
	if e != api.OK {
		panic(e)
	}
	if yes {
		return n, 1
	}
	return n, 0
}

// becameAgain is what became of an applicant: good 0, bad 1, or not known yet 2.
func becameAgain(p api.Plan, r []api.Report, a api.Applicant, now int) int {
	if a.Day+p.Wait > now || a.Day+p.Wait > 100000 {
		return 2
	}
	if slices.ContainsFunc(statesOf(r, a.Accounts, a.Day+p.Wait, now), func(s api.State) bool { return s.Is == 3 }) {
		return 1
	}
	return 0
}

func runAgain(w world) api.Tally {
	var t api.Tally
	for _, a := range w.l {
		if _, yes := answerAgain(w.p, w.r, a); yes == 1 {
			t.Yes[becameAgain(w.p, w.r, a, w.now)]++
		} else {
			t.No[becameAgain(w.p, w.r, a, w.now)]++
		}
	}
	return t
}

func bothAgain(w world) [2][2]int {
	var both [2][2]int
	for _, a := range w.l {
		_, i := answerAgain(w.p, w.r, a)
		_, k := answerAgain(w.q, w.r, a)
		both[i][k]++
	}
	return both
}

// roundedUp is a fraction that is not negative in thousandths, rounded up.
func roundedUp(x *big.Rat) int {
	thousandths := new(big.Rat).Mul(x, big.NewRat(1000, 1))
	n := int(new(big.Int).Quo(thousandths.Num(), thousandths.Denom()).Int64())
	if thousandths.Cmp(big.NewRat(int64(n), 1)) > 0 {
		n++
	}
	return n
}

// partOf is the part of a list that something holds for.
func partOf[T any](l []T, holds func(T) bool) *big.Rat {
	n := int64(0)
	for _, x := range l {
		if holds(x) {
			n++
		}
	}
	return big.NewRat(n, int64(len(l)))
}

// driftAgain looks at the numbers about all scores, and at some far away.
func driftAgain(w world) int {
	scores := func(l []api.Applicant) []int {
		var out []int
		for _, a := range l {
			n, _ := answerAgain(w.p, w.r, a)
			out = append(out, n)
		}
		return out
	}
	a, b := scores(w.l), scores(w.later)
	numbers := []int{-1e9, 1e9}
	for _, n := range slices.Concat(a, b) {
		numbers = append(numbers, n-1, n, n+1)
	}
	greatest := new(big.Rat)
	for _, last := range numbers {
		atMost := func(n int) bool { return n <= last }
		d := new(big.Rat).Sub(partOf(a, atMost), partOf(b, atMost))
		if d.Abs(d); d.Cmp(greatest) > 0 {
			greatest = d
		}
	}
	return roundedUp(greatest)
}

func gapAgain(w world) gapped {
	var high, low *big.Rat
	var out gapped
	for id := range 10 {
		l := slices.DeleteFunc(slices.Clone(w.l), func(a api.Applicant) bool { return a.Group != id })
		if len(l) == 0 {
			continue
		}
		part := partOf(l, func(a api.Applicant) bool {
			_, yes := answerAgain(w.p, w.r, a)
			return yes == 1
		})
		if high == nil || part.Cmp(high) > 0 {
			high, out.high = part, id
		}
		if low == nil || part.Cmp(low) < 0 {
			low, out.low = part, id
		}
	}
	out.gap = roundedUp(new(big.Rat).Sub(high, low))
	return out
}
