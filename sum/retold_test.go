package sum_test

import (
	"slices"

	"goodname/api"
)

// What follows tells again, as directly as can be, what the chapter defines. What is
// linear is told by ranks: a row follows from others if with it they have no greater
// rank.

// inOrder are the subjects of a world in the order of their Ids.
func (w world) inOrder() []api.Subject {
	var out []api.Subject
	ids := idsOf(w.l)
	slices.Sort(ids)
	for _, id := range ids {
		for _, s := range w.l {
			if s.Id == id {
				out = append(out, s)
			}
		}
	}
	return out
}

func isAsked(q api.Question, s api.Subject) bool {
	for _, x := range q.Wheres {
		if s.Values[x.Column] < x.Lo || s.Values[x.Column] > x.Hi {
			return false
		}
	}
	return true
}

func countOf(q api.Question, s api.Subject) int {
	if q.Column == -1 {
		return 1
	}
	if s.Values[q.Column] > q.Clip {
		return q.Clip
	}
	return s.Values[q.Column]
}

func meetsAgain(w world) []int {
	var out []int
	for _, s := range w.inOrder() {
		if isAsked(w.q, s) {
			out = append(out, s.Id)
		}
	}
	return out
}

// sumAgain is the sum of a question, which is not rounded.
func sumAgain(w world) int {
	n := 0
	for _, s := range w.l {
		if isAsked(w.q, s) {
			n += countOf(w.q, s)
		}
	}
	return n
}

// printedAgain goes through the multiples of Step; a later one that is as near is
// greater.
func printedAgain(w world) summed {
	n, best := sumAgain(w), 0
	for k := 0; k <= n+w.q.Step; k += w.q.Step {
		if max(k-n, n-k) <= max(best-n, n-best) {
			best = k
		}
	}
	bound := w.q.Step
	for bound < w.q.Clip {
		bound += w.q.Step
	}
	return summed{best, bound, api.OK}
}

// rows are who is asked for by each question of an audit, in the order of the Ids.
func (w world) rows() [][]int {
	var out [][]int
	for _, q := range w.audit {
		row := make([]int, len(w.l))
		for i, s := range w.inOrder() {
			if isAsked(q, s) {
				row[i] = 1
			}
		}
		out = append(out, row)
	}
	return out
}

// units are the rows of one subject each of those, of n, of which something is so.
func units(n int, is func(i int) bool) [][]int {
	var out [][]int
	for i := range n {
		if is(i) {
			row := make([]int, n)
			row[i] = 1
			out = append(out, row)
		}
	}
	return out
}

func unit(n, at int) []int { return units(n, func(i int) bool { return i == at })[0] }

// prime is above all determinants of eight rows of 0 and 1, the greatest of which is
// 56: so ranks are the same as those of fractions.
const prime = 10007

// inverse is what a number is to be multiplied with to be 1.
func inverse(n int) int {
	out := 1
	for e := prime - 2; e > 0; e /= 2 {
		if e%2 == 1 {
			out = out * n % prime
		}
		n = n * n % prime
	}
	return out
}

func rank(rows [][]int) int {
	var l [][]int
	for _, row := range rows {
		l = append(l, slices.Clone(row))
	}
	n := 0
	for column := 0; len(l) > 0 && column < len(l[0]); column++ {
		at := slices.IndexFunc(l, func(row []int) bool { return row[column] != 0 })
		if at < 0 {
			continue
		}
		first := l[at]
		l = slices.Delete(l, at, at+1)
		for _, row := range l {
			by := row[column] * inverse(first[column]) % prime
			for k := range row {
				row[k] = (row[k] + (prime-by)*first[k]) % prime
			}
		}
		n++
	}
	return n
}

// follows tells whether a row follows from others.
func follows(row []int, from ...[]int) bool {
	return rank(append(slices.Clone(from), row)) == rank(from)
}

func deducedAgain(w world) []int {
	var out []int
	for i, s := range w.inOrder() {
		if follows(unit(len(w.l), i), w.rows()...) {
			out = append(out, s.Id)
		}
	}
	return out
}

// at is where a subject is in the order of Ids, or -1.
func (w world) at(id int) int {
	return slices.IndexFunc(w.inOrder(), func(s api.Subject) bool { return s.Id == id })
}

// divisor is the greatest number that divides all of some.
func divisor(l ...int) int {
	n := 0
	for _, k := range l {
		n = max(n, k, -k)
	}
	for ; n > 1; n-- {
		if !slices.ContainsFunc(l, func(k int) bool { return k%n != 0 }) {
			break
		}
	}
	return n
}

// howIsRight tells whether How answers the only numbers that it may: by the sums the
// value follows, questions that say nothing new have no part, and nothing divides
// all of them.
func howIsRight(w world, got how) bool {
	rows, at := w.rows(), w.at(w.id)
	if at < 0 || !follows(unit(len(w.l), at), rows...) {
		return same(got, how{e: api.ErrNone})
	}
	if got.e != api.OK || len(got.parts) != len(rows) || got.whole < 1 || divisor(append(slices.Clone(got.parts), got.whole)...) != 1 {
		return false
	}
	for j, part := range got.parts {
		if part != 0 && follows(rows[j], rows[:j]...) {
			return false
		}
	}
	sums := make([]int, len(w.l))
	for j, row := range rows {
		for i, asked := range row {
			sums[i] += got.parts[j] * asked
		}
	}
	wanted := make([]int, len(w.l))
	wanted[at] = got.whole
	return slices.Equal(sums, wanted)
}

// free tells of each subject whether it is free.
func (w world) free() []bool {
	n := len(w.l)
	var out []bool
	for i := range n {
		later := units(n, func(k int) bool { return k > i })
		out = append(out, !follows(unit(n, i), slices.Concat(w.rows(), later)...))
	}
	return out
}

// moving is the subject that counts 1 more for another one to count more: itself if
// it is free, otherwise the first one without which what it counts does not follow
// from what all others who are free count.
func (w world) moving(at int) int {
	free, n := w.free(), len(w.l)
	for f := at; ; f++ {
		others := units(n, func(k int) bool { return free[k] && k != f })
		if free[f] && !follows(unit(n, at), slices.Concat(w.rows(), others)...) {
			return f
		}
	}
}

// hideIsRight tells whether Hide answers the only numbers that it may: no sum is
// another one, of those who are free just one counts otherwise, and nothing divides
// all of them.
func hideIsRight(w world, got hidden) bool {
	rows, at := w.rows(), w.at(w.id)
	if at < 0 || follows(unit(len(w.l), at), rows...) {
		return same(got, hidden{e: api.ErrNone})
	}
	if got.e != api.OK || len(got.more) != len(w.l) || got.more[at] < 1 || divisor(got.more...) != 1 {
		return false
	}
	for _, row := range rows {
		if together(row, got.more) != 0 {
			return false
		}
	}
	moving := w.moving(at)
	for i, free := range w.free() {
		if free && (got.more[i] != 0) != (i == moving) {
			return false
		}
	}
	return true
}

// together is the sum of numbers, each times one of others.
func together(a, b []int) int {
	n := 0
	for i := range a {
		n += a[i] * b[i]
	}
	return n
}
