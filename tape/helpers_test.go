package tape_test

import (
	"fmt"
	"math"
	"math/rand"
	"slices"
	"strings"
	"testing"

	"goodname/api"
	"goodname/tape"
)

// fact is the report of the chapter's examples, with a number of its own.
func fact(id int) api.Report {
	return api.Report{Id: id, Source: 70, Account: 5, Made: 10, About: 8, Kind: api.RepOpened}
}

// correction is a report with something in each of its fields.
func correction(id, of int) api.Report {
	return api.Report{Id: id, Source: 70, Account: 5, Made: 10, About: 9, Kind: api.RepCorrect, Cents: 11, Of: of}
}

func withdrawal(id, of int) api.Report {
	return api.Report{Id: id, Source: 70, Account: 5, Made: 10, Kind: api.RepWithdraw, Of: of}
}

// others are reports that differ from a correction in one field each, but not in the
// Id.
func others(one api.Report) []api.Report {
	var l []api.Report
	for _, change := range []func(r *api.Report){
		func(r *api.Report) { r.Source++ },
		func(r *api.Report) { r.Account++ },
		func(r *api.Report) { r.Made++ },
		func(r *api.Report) { r.About++ },
		func(r *api.Report) { r.Kind, r.Of = api.RepOwed, 0 },
		func(r *api.Report) { r.Cents++ },
		func(r *api.Report) { r.Of++ },
	} {
		other := one
		change(&other)
		l = append(l, other)
	}
	return l
}

// facts are n ones, with numbers from one on.
func facts(from, n int) []api.Report {
	var l []api.Report
	for i := range n {
		l = append(l, fact(from+i))
	}
	return l
}

// greatest is the report of a kind with the greatest numbers.
func greatest(kind uint8) api.Report {
	r := api.Report{Id: api.MaxId, Source: api.MaxId, Account: api.MaxId, Made: api.MaxDay, Kind: kind}
	if kind != api.RepWithdraw {
		r.About = api.MaxDay
	}
	switch kind {
	case api.RepLimit, api.RepOwed, api.RepPaid, api.RepDefault, api.RepCorrect:
		r.Cents = api.MaxMoney
	case api.RepLate:
		r.Cents = api.MaxLate
	}
	if kind >= api.RepCorrect {
		r.Of = api.MaxId - 1
	}
	return r
}

func ages() []int { return []int{api.AgeOld, api.AgeRows, api.AgeTags} }

// written, told and converted are what functions answer.
type written struct {
	text string
	e    api.Errno
}

type told struct {
	l         []api.Report
	age, line int
	e         api.Errno
}

type converted struct {
	text string
	line int
	e    api.Errno
}

func write(l []api.Report, age int) written {
	text, e := tape.Write(l, age)
	return written{text, e}
}

func read(text string) told {
	l, age, line, e := tape.Read(text)
	return told{l, age, line, e}
}

func convert(text string, age int) converted {
	out, line, e := tape.Convert(text, age)
	return converted{out, line, e}
}

func join(a, b string, age int) written {
	text, e := tape.Join(a, b, age)
	return written{text, e}
}

// same compares by what is printed, where a nil list and an empty one are the same.
func same(a, b any) bool { return fmt.Sprint(a) == fmt.Sprint(b) }

// isWrong tells whether an answer is an error of a line, and nothing else.
func (x told) isWrong(line int, e api.Errno) bool { return same(x, told{line: line, e: e}) }

// made returns the tape of reports, which have to be valid.
func made(t *testing.T, age int, l ...api.Report) string {
	t.Helper()
	got := write(l, age)
	if got.e != api.OK {
		t.Fatal(l, age, got.e)
	}
	return got.text
}

// sealed puts the right end behind lines, of which the first one is the head and all
// others count as reports.
func sealed(l ...string) string {
	text, sum := "", 0
	for i, line := range l {
		line += "\n"
		for k := range len(line) {
			sum += (i + 1) * int(line[k])
		}
		text += line
	}
	return fmt.Sprintf("%s=%d,%d\n", text, len(l)-1, sum%9973)
}

// linesOf are the lines of a tape, without their line feeds, and without the last
// one.
func linesOf(text string) []string {
	l := strings.Split(text, "\n")
	return l[:len(l)-2]
}

// odd are numbers that are not what an argument takes, of whatever size: some are
// valid ones in fewer bits.
func odd(lo, hi int) []int {
	return []int{lo - 1, hi + 1, math.MinInt, math.MaxInt, math.MinInt + 1, math.MaxInt - 1, 1<<48 + lo, -(1 << 48) + hi, -1 << 31, 1<<32 + hi, 256 + lo}
}

// random makes reports and texts.
type random struct{ *rand.Rand }

func newRandom(seed int64) random { return random{rand.New(rand.NewSource(seed))} }

func pick[T any](r random, l ...T) T { return l[r.Intn(len(l))] }

// number is one until n: a small one, n itself, or any.
func (r random) number(n int) int {
	return pick(r, 0, r.Intn(min(n, 9)+1), r.Intn(n+1), n, n/10, 10*r.Intn(n/10+1))
}

// report is a valid one of a kind that is at most the last one.
func (r random) report(id int, last uint8) api.Report {
	x := greatest(uint8(1 + r.Intn(int(last))))
	x.Id = id
	for _, n := range []*int{&x.Source, &x.Account, &x.Made, &x.About, &x.Cents} {
		*n = r.number(*n)
	}
	if x.Kind >= api.RepCorrect {
		x.Of = pick(r, 0, 1, 7, r.Intn(api.MaxId+1), api.MaxId)
		if x.Of == id {
			x.Of = (id + 1) % 1000
		}
	}
	return x
}

// reports are n ones whose kinds are at most the last one, some of them more than
// once.
func (r random) reports(n int, last uint8) []api.Report {
	var l []api.Report
	for i, id := range r.Perm(max(n, 10) * 2)[:n] {
		if i > 0 && r.Intn(8) == 0 {
			l = append(l, pick(r, l...))
			continue
		}
		if r.Intn(3) == 0 {
			id = api.MaxId - 10*id
		}
		l = append(l, r.report(id, last))
	}
	return l
}

// lastOf is the last kind that has a line in an age.
func lastOf(age int) uint8 {
	if age == api.AgeOld {
		return api.RepClosed
	}
	return api.RepWithdraw
}

// tape is the tape of some reports of an age.
func (r random) tape(t *testing.T, n, age int) string {
	t.Helper()
	return made(t, age, r.reports(n, lastOf(age))...)
}

func mixedUp[T any](r random, l []T) []T {
	out := slices.Clone(l)
	r.Shuffle(len(out), func(i, k int) { out[i], out[k] = out[k], out[i] })
	return out
}
