package clerk_test

import (
	"slices"
	"testing"

	"goodname/api"
)

// month are commands of a month, some of which are refused.
func month() []act {
	return []act{
		noted("LEE ANNA EVE/123456789", 60, 0, 11, 11, 0, 7, 1, 9), do("MERGE", 1, 10, 20), do("MERGE", 2, 10, 40), do("DAY", 51),
		freeze(1, 10), do("ASK", 1, 900, 10, 1, 0), do("ASK", 2, 900, 60, 1, 0), do("OWN", 1, 60), do("DISPUTE", 200, 101), do("DISPUTE", 201, 101),
		do("DAY", 52), do("DAY", 52), do("REPORT", 110, 70, 1, 52, 3, 7, 0), do("REPORT", 110, 70, 1, 52, 3, 8, 0), do("ANSWER", 1, 200, 2, 20, 90), do("ANSWER", 2, 200, 1, 0, 0),
		do("DAY", 58), do("SPLIT", 3, 10, 60), do("UNDO", 4, 1), do("SIGNAL", 0, 2, 10, 2, 0), do("ASK", 3, 900, 10, 1, 0), do("", 1), do("DAY", 80),
	}
}

// past is a bureau after a month, and how many commands were refused.
func past(t *testing.T, b api.Bureau) (next api.Bureau, refused int) {
	t.Helper()
	for _, x := range month() {
		got := x.to(b)
		if got.e != api.OK {
			refused++
			continue
		}
		b = got.next
	}
	return b, refused
}

// P12.2, P12.6, P12.7: a month is replayed from its log, whatever was refused, and
// from a bureau that had a log before.
func TestMonth(t *testing.T) {
	first := after(t, town(), do("OWN", 9, 40), do("ASK", 20, 900, 40, 1, 0))
	for _, b := range []api.Bureau{town(), first} {
		last, refused := past(t, b)
		log := last.Log[len(b.Log):]
		if refused != 7 || len(log) != len(month())-7 {
			t.Fatal(refused, last.Log)
		}
		if got := replay(b, log); !same(got, replayed{next: last}) {
			t.Error(got, last)
		}
		for i := range len(log) + 1 {
			half := replay(b, log[:i])
			if got := replay(half.next, log[i:]); half.e != api.OK || !same(got, replayed{next: last}) {
				t.Error(i, half, got)
			}
		}
		text := write(last.Log)
		if got := read(text.text); text.e != api.OK || !same(got, told{log: last.Log}) {
			t.Error(text, got)
		}
	}
}

// P12.2: the first entry that is refused is told, with its error and what is said,
// or the first one on another day.
func TestReplayIsRefused(t *testing.T) {
	entry := func(day int, x act) api.Entry {
		return api.Entry{Day: day, Word: x.Word, Args: x.Args, Note: x.Note}
	}
	merge, ask, later := entry(50, do("MERGE", 1, 10, 20)), entry(50, do("ASK", 1, 900, 10, 1, 0)), entry(51, do("DAY", 51))
	for i, x := range []struct {
		log  []api.Entry
		at   int
		said string
		e    api.Errno
	}{
		{nil, 0, "", api.OK},
		{[]api.Entry{merge, ask, later}, 0, "", api.OK},
		{[]api.Entry{later, merge}, 1, "", api.ErrBad},
		{[]api.Entry{later, entry(51, do("MERGE", 1, 10, 20))}, 0, "", api.OK},
		{[]api.Entry{merge, merge}, 1, "", api.ErrBad},
		{[]api.Entry{merge, ask, ask, merge}, 2, "", api.ErrBad},
		{[]api.Entry{merge, entry(49, do("ASK", 1, 900, 10, 1, 0))}, 1, "", api.ErrBad},
		{[]api.Entry{entry(51, do("ASK", 1, 900, 10, 1, 0))}, 0, "", api.ErrBad},
		{[]api.Entry{entry(50, do("DAY", 51))}, 0, "", api.ErrBad},
		{[]api.Entry{entry(52, do("DAY", 51)), merge}, 0, "", api.ErrBad},
		{[]api.Entry{merge, entry(50, do("MERGE", 2, 10, 40))}, 1, "apart 10 40", api.ErrDoubt},
		{[]api.Entry{ask, entry(50, do("ASK", 2, 900, 30, 1, 0)), merge}, 1, "file 10", api.ErrDoubt},
		// The command is refused before its day is looked at.
		{[]api.Entry{merge, entry(0, do("MERGE", 2, 10, 40))}, 1, "apart 10 40", api.ErrDoubt},
		{[]api.Entry{merge, later, entry(51, do("DAY", 51))}, 2, "", api.ErrBad},
		{[]api.Entry{entry(50, do("NIGHT", 1))}, 0, "", api.ErrWord},
		{[]api.Entry{merge, {Day: 50, Word: "ASK"}}, 1, "", api.ErrWord},
		{[]api.Entry{merge, {Day: 50, Word: "OWN", Args: []int{1, api.MaxTold + 1}}}, 1, "", api.ErrArg},
		{[]api.Entry{merge, {Day: 50, Word: "RECORD", Args: make([]int, 5), Note: "a"}}, 1, "", api.ErrArg},
		{[]api.Entry{merge, {}}, 1, "", api.ErrWord},
	} {
		got := replay(town(), x.log)
		if got.at != x.at || got.said != x.said || got.e != x.e {
			t.Error(i, got)
		}
		if x.e == api.OK && (len(got.next.Log) != len(x.log) || !same(got.next.Log, x.log)) || x.e != api.OK && !same(got.next, api.Bureau{}) {
			t.Error(i, got)
		}
	}
}

// P12.2: a log is as long as there is room for.
func TestReplayIsFull(t *testing.T) {
	b := town()
	b.Log = many(190, func(int) api.Entry { return api.Entry{Day: 50, Word: "DAY", Args: []int{50}} })
	days := many(20, func(i int) api.Entry { return api.Entry{Day: 51 + i, Word: "DAY", Args: []int{51 + i}} })
	if got := replay(b, days[:10]); got.e != api.OK || len(got.next.Log) != 200 || got.next.Day != 60 {
		t.Error(got)
	}
	for _, n := range []int{11, 12, 20} {
		if got := replay(b, days[:n]); !same(got, replayed{at: 10, e: api.ErrFull}) {
			t.Error(got)
		}
	}
	if got := replay(town(), slices.Repeat(days[:1], 5000)); !same(got, replayed{at: 1, e: api.ErrBad}) {
		t.Error(got)
	}
}
