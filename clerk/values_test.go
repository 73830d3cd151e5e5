package clerk_test

import (
	"math"
	"reflect"
	"slices"
	"strings"
	"testing"

	"goodname/api"
	"goodname/clerk"
)

// busy is a bureau in which there is something of all.
func busy(t *testing.T) api.Bureau {
	b, _ := past(t, town())
	b.Code.Stills = []api.Still{{Land: 1, Days: 20, Means: api.StillPaid}}
	return b
}

// parts are all parts of anything that are wanted, with those in its lists.
func parts(x reflect.Value, wanted func(reflect.Kind) bool) []reflect.Value {
	var out []reflect.Value
	if wanted(x.Kind()) {
		out = append(out, x)
	}
	switch x.Kind() {
	case reflect.Pointer:
		out = append(out, parts(x.Elem(), wanted)...)
	case reflect.Slice:
		for i := range x.Len() {
			out = append(out, parts(x.Index(i), wanted)...)
		}
	case reflect.Struct:
		for i := range x.NumField() {
			out = append(out, parts(x.Field(i), wanted)...)
		}
	}
	return out
}

// lists are all lists of what a pointer is to, leaves all numbers, words and flags.
func lists(x any) []reflect.Value {
	return parts(reflect.ValueOf(x), func(k reflect.Kind) bool { return k == reflect.Slice })
}

func leaves(x any) []reflect.Value {
	return parts(reflect.ValueOf(x), func(k reflect.Kind) bool {
		return k != reflect.Slice && k != reflect.Struct && k != reflect.Pointer
	})
}

// spoilt writes something else to all of anything, within the capacity of its lists
// too.
func spoilt(x any) {
	for _, l := range lists(x) {
		whole := l.Slice(0, l.Cap())
		for i := range whole.Len() {
			spoilt(whole.Index(i).Addr().Interface())
		}
	}
	for _, v := range leaves(x) {
		switch v.Kind() {
		case reflect.Int:
			v.SetInt(-77)
		case reflect.Uint8:
			v.SetUint(77)
		case reflect.String:
			v.SetString("SPOILT")
		case reflect.Bool:
			v.SetBool(!v.Bool())
		}
	}
}

// roomy gives each list of anything room behind its last element, and puts something
// there.
func roomy(x any) {
	for _, l := range lists(x) {
		n := l.Len()
		more := reflect.MakeSlice(l.Type(), n+3, n+3)
		reflect.Copy(more, l)
		for i := range 3 {
			spoilt(more.Index(n + i).Addr().Interface())
		}
		l.Set(more.Slice(0, n))
	}
}

// behind are all elements of lists, within their capacity.
func behind(x any) []any {
	var out []any
	for _, l := range lists(x) {
		all := l.Slice(0, l.Cap())
		for i := range all.Len() {
			out = append(out, deep(all.Index(i).Interface()))
		}
	}
	return out
}

// some are commands that are done, or refused, in a busy bureau.
func some() []act {
	return []act{
		do("DAY", 90), noted("ELM IDA/", 70, 0, 5, 5, 0, 1, 2, 3), do("MERGE", 9, 20, 60), do("SPLIT", 9, 10, 30), do("UNDO", 9, 4), do("OWN", 2, 20), do("REPORT", 120, 70, 5, 79, 6, 9, 0),
		do("DISPUTE", 300, 110), do("DISPUTE", 300, 102), do("ANSWER", 9, 200, 1, 0, 0), do("SIGNAL", 0, 0, 20, 1, 0), do("ASK", 0, 900, 20, 1, 0), do("ASK", 2, 900, 20, 1, 0), do("MERGE", 9, 10, 40), do("", 1), do("OWN", 1, api.MaxTold+1),
	}
}

// answers are all that the functions answer of a bureau and a log.
type answers struct {
	check    api.Errno
	does     []done
	replayed replayed
	pages    []paged
	written  written
	told     told
}

func ask(b api.Bureau, l []act, log []api.Entry, text string) answers {
	out := answers{check: clerk.Check(b), replayed: replay(b, log), written: write(log), told: read(text)}
	for _, x := range l {
		out.does = append(out.does, x.to(b))
	}
	for _, id := range []int{10, 20, 40, 50} {
		out.pages = append(out.pages, page(b, id, api.PurposeSelf), page(b, id, api.PurposeCredit))
	}
	return out
}

// daily is a log that can be done from the busy bureau on.
func daily() []api.Entry {
	return []api.Entry{{Day: 81, Word: "DAY", Args: []int{81}}, {Day: 81, Word: "RECORD", Args: []int{71, 0, 9, 9, 0}, Note: "ELM/"}, {Day: 81, Word: "OWN", Args: []int{3, 71}}}
}

// R3: no argument is written to, nor what is behind the last element of a list, and
// that does not count.
func TestArgumentsAreNotWrittenTo(t *testing.T) {
	plain := busy(t)
	text := write(plain.Log).text
	want := ask(plain, some(), daily(), text)
	if want.check != api.OK || want.replayed.e != api.OK || len(want.told.log) != len(plain.Log) {
		t.Fatal(want)
	}
	b, l, log := deep(plain), deep(some()), deep(daily())
	roomy(&b)
	roomy(&log)
	roomy(&l)
	before := slices.Concat(behind(&b), behind(&log), behind(&l))
	for range 2 {
		if got := ask(b, l, log, text); !same(got.does, want.does) || !same(got, want) {
			t.Fatal(got, want)
		}
	}
	after := slices.Concat(behind(&b), behind(&log), behind(&l))
	for i := range before {
		if !same(before[i], after[i]) {
			t.Fatal(before[i], after[i])
		}
	}
	if !same(b, plain) || !same(log, daily()) || !same(l, some()) {
		t.Error("written to")
	}
}

// R3: results share no memory with arguments, nor with each other, and no call
// remembers another one.
func TestResultsShareNoMemory(t *testing.T) {
	b, l, log := busy(t), some(), daily()
	text := write(b.Log).text
	want := ask(b, l, log, text)
	first := ask(b, l, log, text)
	for i := range first.does {
		spoilt(&first.does[i].next)
	}
	for i := range first.pages {
		spoilt(&first.pages[i].page)
	}
	spoilt(&first.replayed.next)
	spoilt(&first.told.log)
	if !same(b, busy(t)) || !same(l, some()) || !same(log, daily()) {
		t.Fatal("arguments are written to")
	}
	if got := ask(b, l, log, text); !same(got, want) {
		t.Fatal(got, want)
	}
	// The other way round: an argument that is written to changes no result.
	b, l, log = deep(b), deep(l), deep(log)
	second := ask(b, l, log, text)
	spoilt(&b)
	spoilt(&log)
	spoilt(&l)
	if !same(second, want) {
		t.Fatal(second, want)
	}
}

// R3: no two lists of one result share memory.
func TestListsOfOneResult(t *testing.T) {
	b := busy(t)
	for _, x := range some() {
		got := x.to(b)
		apartIn(t, &got.next)
	}
	r := replay(b, daily())
	apartIn(t, &r.next)
	p := shown(t, b, 10, api.PurposeSelf)
	apartIn(t, &p)
	log := read(write(b.Log).text).log
	apartIn(t, &log)
}

// apartIn looks whether all lists of a result have memory of their own, within their
// capacity.
func apartIn(t *testing.T, x any) {
	t.Helper()
	seen := map[uintptr]bool{}
	for _, l := range lists(x) {
		size := l.Type().Elem().Size()
		for i := range l.Cap() {
			at := l.Pointer() + uintptr(i)*size
			if seen[at] {
				t.Fatal("shared", l)
			}
			seen[at] = true
		}
	}
}

// R4: lists that are nil and that are empty are the same.
func TestNilAndEmpty(t *testing.T) {
	bare := api.Bureau{Day: 5, Rules: api.Rules{Together: 1}}
	empty := deep(bare)
	for _, l := range lists(&empty) {
		l.Set(reflect.MakeSlice(l.Type(), 0, 5))
	}
	l := append(some(), act{"DAY", []int{6}, ""}, act{"DAY", nil, ""}, act{"DAY", []int{}, ""}, noted("ELM/", 1, 0, 5, 5, 0))
	if got, want := ask(empty, l, nil, ""), ask(bare, l, []api.Entry{}, ""); !same(got, want) || want.check != api.OK || want.does[len(some())].e != api.OK {
		t.Error(got, want)
	}
	b := busy(t)
	for i := range b.Records {
		if len(b.Records[i].Stays) == 0 {
			b.Records[i].Stays = []api.Stay{}
		}
	}
	if got, want := ask(b, some(), daily(), ""), ask(busy(t), some(), daily(), ""); !same(got, want) {
		t.Error(got, want)
	}
}

// number is any one, most of them near to some limit.
func (r random) number() int {
	n := pick(r, 0, 1, 2, 5, 10, 20, 50, 51, 80, 101, 200, api.MaxDay, api.MaxId, api.MaxMoney, math.MaxInt, math.MinInt, 1<<32, 256, -1)
	return n + pick(r, -1, 0, 0, 0, 1)
}

// spoilOne writes something else to one of some places.
func (r random) spoilOne(l []reflect.Value) {
	switch v := l[r.Intn(len(l))]; v.Kind() {
	case reflect.Int:
		v.SetInt(int64(r.number()))
	case reflect.Uint8:
		v.SetUint(uint64(r.Intn(10)))
	case reflect.String:
		v.SetString(pick(r, "", "A", "LEE", "DAY", "a", "123456789", "A/", strings.Repeat("A", 201)))
	case reflect.Bool:
		v.SetBool(!v.Bool())
	}
}

// R1, R2, R5, R6 and R7: whatever arguments are, each call ends, none panics, and
// beside an error is nothing but what is said.
func TestAnyArguments(t *testing.T) {
	r, seen := newRandom(13), map[api.Errno]int{}
	base := busy(t)
	base.Log = base.Log[:3]
	for range 12000 {
		b, x, log := deep(base), deep(some())[r.Intn(len(some()))], deep(daily())
		for range pick(r, 0, 1, 1, 2) {
			r.spoilOne(leaves(&b))
		}
		if r.Intn(2) == 0 {
			x.Args[r.Intn(len(x.Args))] = r.number()
		}
		if r.Intn(2) == 0 {
			r.spoilOne(leaves(&log))
		}
		id, purpose := r.number(), uint8(r.Intn(8))
		one, two, three := x.to(b), replay(b, log), page(b, id, purpose)
		if want := doAgain(b, x); !same(one, want) {
			t.Fatal(b, x, one, want)
		}
		if want := replayAgain(b, log); !same(two, want) {
			t.Fatal(b, log, two, want)
		}
		if want := pageAgain(b, id, purpose); !same(three, want) {
			t.Fatal(b, id, purpose, three, want)
		}
		if got, want := write(log), writeAgain(log); got != want {
			t.Fatal(log, got, want)
		}
		if e := clerk.Check(b); (e == api.OK) != validAgain(b) || e != api.OK && e != api.ErrBureau {
			t.Fatal(b, e)
		}
		seen[one.e]++
		seen[two.e]++
		seen[three.e]++
	}
	for _, e := range []api.Errno{api.OK, api.ErrBureau, api.ErrWord, api.ErrArg, api.ErrBad, api.ErrDoubt, api.ErrNone} {
		if seen[e] < 100 {
			t.Error("too few", e, seen)
		}
	}
}

// R7: calls end, however long lists and words are.
func TestHugeArguments(t *testing.T) {
	b := town()
	for i, x := range []act{{strings.Repeat("DAY", 1000000), nil, ""}, {"DAY", make([]int, 1000000), ""}, {"RECORD", make([]int, 1000000), ""}, {"OWN", []int{1, 2}, strings.Repeat("A", 1000000)}} {
		if got := x.to(b); !got.is("", api.ErrWord) {
			t.Error(i, got.e)
		}
	}
	if got := noted(strings.Repeat("A", 1000000), 1, 2, 3, 4, 5).to(b); !got.is("", api.ErrArg) {
		t.Error(got.e)
	}
	for _, l := range lists(&b) {
		if l.Len() > 0 {
			big := reflect.MakeSlice(l.Type(), 100000, 100000)
			old := reflect.ValueOf(l.Interface())
			l.Set(big)
			if e := clerk.Check(b); e != api.ErrBureau {
				t.Error(l.Type(), e)
			}
			l.Set(old)
		}
	}
}
