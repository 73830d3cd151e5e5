package clerk_test

import (
	"math"
	"math/rand"
	"reflect"
	"slices"
	"strings"
	"testing"

	"goodname/api"
	"goodname/clerk"
)

func record(id int, names, number string, born int) api.Record {
	return api.Record{Id: id, Names: strings.Split(names, " "), Number: number, Born: api.Span{Lo: born, Hi: born}}
}

// owed is a report of the source 70 that 100 are owed.
func owed(id, account, made, about int) api.Report {
	return api.Report{Id: id, Source: 70, Account: account, Made: made, About: about, Kind: api.RepOwed, Cents: 100}
}

func licence(who int, purpose uint8) api.Licence {
	return api.Licence{Who: who, Purpose: purpose, To: api.MaxDay}
}

// town is a bureau on the day 50. The records 10 and 30 are one file; 20 may be of it;
// 40 is apart from all, as is 50, which has a suffix. The account 5 is of 30, and 6 of
// 40. The report 101 is kept until the day 60, 102 until 80, 103 until 49.
func town() api.Bureau {
	return api.Bureau{
		Day:   50,
		Rules: api.Rules{Letters: 1, Digits: 1, Days: 5, Together: 3},
		Records: []api.Record{
			record(30, "LEE ANNA", "123456789", 12),
			record(10, "LEE ANNA", "123456789", 10),
			record(20, "LEE ANNA", "", 10),
			record(40, "FOX MAX", "", 10),
			{Id: 50, Names: []string{"FOX", "MAX"}, Suffix: api.SuffixJunior, Born: api.Span{Lo: 30, Hi: 31}},
		},
		Code:   api.Code{Laws: []api.Law{{Land: 1, Kind: api.RepOwed, Base: api.BaseAbout, Keep: 40}, {Land: 1, Kind: api.RepDefault, Base: api.BaseAbout, Keep: 50}}},
		Homes:  []api.Home{{Account: 5, Land: 1}, {Account: 6, Land: 1}},
		Owners: []api.Owner{{Account: 5, Record: 30}, {Account: 6, Record: 40}},
		Desk: api.Desk{
			Terms:   api.Terms{Answer: 5, Mark: 10, Lately: 20},
			Reports: []api.Report{owed(101, 5, 25, 20), {Id: 102, Source: 70, Account: 5, Made: 30, About: 30, Kind: api.RepDefault, Cents: 250}, owed(103, 6, 40, 9)},
		},
		Gate: api.Gate{Licences: []api.Licence{licence(900, api.PurposeCredit), licence(901, api.PurposeMarket), licence(902, api.PurposeCourt)}},
	}
}

// act is a command.
type act struct {
	Word string
	Args []int
	Note string
}

func do(word string, args ...int) act { return act{Word: word, Args: args} }

// noted is a RECORD.
func noted(note string, args ...int) act { return act{"RECORD", args, note} }

// freeze is a signal by which a file is frozen.
func freeze(id, file int) act { return do("SIGNAL", 0, id, file, api.SignalFreeze, 0) }

// done, replayed, paged, text and told are what functions answer.
type done struct {
	next api.Bureau
	said string
	e    api.Errno
}

type replayed struct {
	next api.Bureau
	at   int
	said string
	e    api.Errno
}

type paged struct {
	page api.Page
	e    api.Errno
}

type written struct {
	text string
	e    api.Errno
}

type told struct {
	log  []api.Entry
	line int
	e    api.Errno
}

func (x act) to(b api.Bureau) done {
	next, said, e := clerk.Do(b, x.Word, x.Args, x.Note)
	return done{next, said, e}
}

func replay(b api.Bureau, log []api.Entry) replayed {
	next, at, said, e := clerk.Replay(b, log)
	return replayed{next, at, said, e}
}

func page(b api.Bureau, record int, purpose uint8) paged {
	p, e := clerk.Page(b, record, purpose)
	return paged{p, e}
}

func write(log []api.Entry) written {
	text, e := clerk.WriteLog(log)
	return written{text, e}
}

func read(text string) told {
	log, line, e := clerk.ReadLog(text)
	return told{log, line, e}
}

// after returns a bureau after commands, all of which have to be done.
func after(t *testing.T, b api.Bureau, l ...act) api.Bureau {
	t.Helper()
	for i, x := range l {
		got := x.to(b)
		if got.e != api.OK {
			t.Fatal(i, x, got.said, got.e)
		}
		b = got.next
	}
	return b
}

// same compares values, where a nil list and an empty one are the same.
func same(a, b any) bool { return alike(reflect.ValueOf(a), reflect.ValueOf(b)) }

func alike(a, b reflect.Value) bool {
	switch a.Kind() {
	case reflect.Slice, reflect.Array:
		if a.Len() != b.Len() {
			return false
		}
		for i := range a.Len() {
			if !alike(a.Index(i), b.Index(i)) {
				return false
			}
		}
		return true
	case reflect.Struct:
		for i := range a.NumField() {
			if !alike(a.Field(i), b.Field(i)) {
				return false
			}
		}
		return true
	}
	return a.Equal(b)
}

// is tells whether a command was refused by an error, and nothing was said but this.
func (x done) is(said string, e api.Errno) bool { return same(x, done{said: said, e: e}) }

// deep is a copy of anything, that shares no memory with it, nor has room behind the
// last element of a list.
func deep[T any](x T) T {
	out := reflect.New(reflect.TypeOf(x)).Elem()
	copyTo(out, reflect.ValueOf(x))
	return out.Interface().(T)
}

func copyTo(to, from reflect.Value) {
	switch from.Kind() {
	case reflect.Slice:
		if from.IsNil() {
			return
		}
		to.Set(reflect.MakeSlice(from.Type(), from.Len(), from.Len()))
		for i := range from.Len() {
			copyTo(to.Index(i), from.Index(i))
		}
	case reflect.Struct:
		for i := range from.NumField() {
			copyTo(to.Field(i), from.Field(i))
		}
	default:
		to.Set(from)
	}
}

// odd are numbers that are not what an argument takes, of whatever size: some are
// valid ones in fewer bits.
func odd(lo, hi int) []int {
	return []int{lo - 1, hi + 1, -api.MaxTold, api.MaxTold, 1<<32 + lo, -(1 << 32) + hi}
}

// huge are numbers that no command has.
func huge() []int {
	return []int{-api.MaxTold - 1, api.MaxTold + 1, math.MinInt, math.MaxInt, 1<<48 + 1}
}

// many are n things, of which each one is made of its index.
func many[T any](n int, of func(i int) T) []T {
	var l []T
	for i := range n {
		l = append(l, of(i))
	}
	return l
}

// random makes bureaus, commands and texts.
type random struct{ *rand.Rand }

func newRandom(seed int64) random { return random{rand.New(rand.NewSource(seed))} }

func pick[T any](r random, l ...T) T { return l[r.Intn(len(l))] }

// near is a number from 0 on that is small, or, now and then, just what it should not
// be.
func (r random) near(n int) int {
	if r.Intn(60) == 0 {
		return pick(r, -1, api.MaxId, api.MaxId+1, api.MaxDay+1, 256, api.MaxTold)
	}
	return r.Intn(n)
}

// part are n of some numbers, in increasing order.
func (r random) part(n, of int) []int { return slices.Sorted(slices.Values(r.Perm(of)[:n])) }
