package clerk_test

import (
	"slices"
	"strings"
	"testing"

	"goodname/api"
	"goodname/clerk"
)

// effect looks whether a command does what a change does to a bureau, puts itself at
// the end of the log, and says something.
func effect(t *testing.T, b api.Bureau, x act, said string, f change) {
	t.Helper()
	want := deep(b)
	f(&want)
	want.Log = append(want.Log, api.Entry{Day: want.Day, Word: x.Word, Args: x.Args, Note: x.Note})
	if got := x.to(b); !same(got, done{next: want, said: said}) {
		t.Errorf("%v\n%+v\n%+v", x, got, want)
	}
}

// bad looks whether commands are refused by ErrBad, and nothing else.
func bad(t *testing.T, b api.Bureau, l ...act) {
	t.Helper()
	for _, x := range l {
		if got := x.to(b); !got.is("", api.ErrBad) {
			t.Error(x, got)
		}
	}
}

// others are commands that differ from one in a single number: in each place with all
// numbers of a list.
func others(x act, places ...[]int) []act {
	var l []act
	for i, numbers := range places {
		for _, n := range numbers {
			other := deep(x)
			other.Args[i] = n
			l = append(l, other)
		}
	}
	return l
}

// P12.1: DAY goes on to a later day, until the last one.
func TestDay(t *testing.T) {
	for _, day := range []int{51, 52, 99, api.MaxDay} {
		effect(t, town(), do("DAY", day), "", func(b *api.Bureau) { b.Day = day })
	}
	bad(t, town(), others(do("DAY", 0), append([]int{0, 1, 49, 50}, odd(-1, api.MaxDay)...))...)
	bad(t, after(t, town(), do("DAY", api.MaxDay)), do("DAY", api.MaxDay+1))
	effect(t, api.Bureau{Rules: town().Rules}, do("DAY", 1), "", func(b *api.Bureau) { b.Day = 1 })
}

// P12.1: RECORD puts a record with all its parts behind the others.
func TestRecord(t *testing.T) {
	put := func(r api.Record) change {
		return func(b *api.Bureau) { b.Records = append(b.Records, r) }
	}
	stays := many(6, func(i int) api.Stay { return api.Stay{Place: 60 + i, From: 10 * i, To: 10*i + 9} })
	for _, x := range []struct {
		do   act
		want api.Record
	}{
		{noted("ELM/", 1, 0, 2, 3, 0), api.Record{Id: 1, Names: []string{"ELM"}, Born: api.Span{Lo: 2, Hi: 3}}},
		{noted("ELM IDA B/000000001", 0, 1, 0, 100000, 1), api.Record{Names: []string{"ELM", "IDA", "B"}, Suffix: 1, Born: api.Span{Lo: 0, Hi: 100000}, Twin: true, Number: "000000001"}},
		{noted("A A A A A/", 999999, 2, 4, 4, 0), api.Record{Id: 999999, Names: []string{"A", "A", "A", "A", "A"}, Suffix: 2, Born: api.Span{Lo: 4, Hi: 4}}},
		{noted("ELM/", 60, 0, 200, 200, 0, 99999, 5, 6), api.Record{Id: 60, Names: []string{"ELM"}, Born: api.Span{Lo: 200, Hi: 200}, Stays: []api.Stay{{Place: 99999, From: 5, To: 6}}}},
		{noted("ELM/", 60, 0, 2, 2, 0, 60, 0, 9, 61, 10, 19, 62, 20, 29, 63, 30, 39, 64, 40, 49, 65, 50, 59), api.Record{Id: 60, Names: []string{"ELM"}, Born: api.Span{Lo: 2, Hi: 2}, Stays: stays}},
	} {
		effect(t, town(), x.do, "", put(x.want))
	}
}

// P12.1: a RECORD is refused if its numbers or its note make no record.
func TestRecordIsBad(t *testing.T) {
	good := noted("ELM IDA/123456789", 60, 0, 20, 30, 0, 7, 8, 9)
	after(t, town(), good)
	ids := append(odd(0, api.MaxId), 10, 20, 30, 40, 50)
	suffixes := append(odd(0, 2), 255, 256, 257, -255, 1<<32)
	bad(t, town(), others(good, ids, suffixes, odd(0, 30), odd(20, api.MaxDay), odd(0, 1), odd(0, api.MaxPlace), odd(0, 9), odd(8, api.MaxDay))...)
	for _, note := range []string{"", "ELM", "/", "ELM IDA", "/123456789", "ELM  IDA/", " ELM/", "ELM /", "ELM/12345678", "ELM/1234567890", "ELM/12345678A", "ELM/ ", "ELM/IDA/123456789", "ELM/123456789/", "ELM//", "ELM1/", "A A A A A A/", "ABCDEFGHIJKLMNOPQRSTU/"} {
		bad(t, town(), noted(note, good.Args...))
	}
}

// P12.1: MERGE, SPLIT and UNDO put an op behind the others, on records that there are.
func TestOps(t *testing.T) {
	put := func(op api.Op) change {
		return func(b *api.Bureau) { b.Ops = append(b.Ops, op) }
	}
	effect(t, town(), do("MERGE", 7, 10, 20), "", put(api.Op{Id: 7, Kind: api.OpMerge, A: 10, B: 20}))
	effect(t, town(), do("MERGE", 0, 10, 30), "", put(api.Op{Id: 0, Kind: api.OpMerge, A: 10, B: 30}))
	effect(t, town(), do("SPLIT", api.MaxId, 20, 40), "", put(api.Op{Id: api.MaxId, Kind: api.OpSplit, A: 20, B: 40}))
	b := after(t, town(), do("SPLIT", 7, 10, 30), do("MERGE", 3, 20, 30))
	effect(t, b, do("UNDO", 8, 7), "", put(api.Op{Id: 8, Kind: api.OpUndo, A: 7}))
	effect(t, b, do("UNDO", 4, 3), "", put(api.Op{Id: 4, Kind: api.OpUndo, A: 3}))
	effect(t, after(t, b, do("UNDO", 8, 7)), do("UNDO", 9, 8), "", put(api.Op{Id: 9, Kind: api.OpUndo, A: 8}))
	bad(t, b,
		do("MERGE", 7, 10, 20), do("MERGE", 1, 20, 10), do("MERGE", 1, 10, 10), do("MERGE", 1, 10, 21), do("MERGE", 1, 9, 10), do("MERGE", 1, -10, 10), do("MERGE", -1, 10, 20), do("MERGE", api.MaxId+1, 10, 20), do("MERGE", 1<<32+1, 10, 20),
		do("SPLIT", 3, 10, 20), do("SPLIT", 1, 20, 10), do("SPLIT", 1, 10, 10), do("SPLIT", 1, 10, 21), do("SPLIT", 1, 9, 10), do("SPLIT", 1, 20, 1<<32+30), do("SPLIT", -1, 10, 20), do("SPLIT", api.MaxId+1, 10, 20),
		do("UNDO", 7, 3), do("UNDO", 6, 7), do("UNDO", 8, 8), do("UNDO", 8, 10), do("UNDO", 8, -1), do("UNDO", -1, 7), do("UNDO", api.MaxId+1, 7), do("UNDO", 8, 1<<32+7),
	)
}

// P12.1: OWN puts an owner in its place.
func TestOwn(t *testing.T) {
	for at, account := range map[int][]int{0: {0, 4}, 2: {7, 8, api.MaxId}} {
		for _, n := range account {
			o := api.Owner{Account: n, Record: 20}
			effect(t, town(), do("OWN", n, 20), "", func(b *api.Bureau) { b.Owners = slices.Insert(b.Owners, at, o) })
		}
	}
	b := after(t, town(), do("OWN", 9, 10), do("OWN", 7, 10))
	effect(t, b, do("OWN", 8, 50), "", func(b *api.Bureau) { b.Owners = slices.Insert(b.Owners, 3, api.Owner{Account: 8, Record: 50}) })
	bad(t, town(), others(do("OWN", 7, 10), append(odd(0, api.MaxId), 5, 6), []int{0, -10, 11, 1<<32 + 10})...)
	bad(t, town(), do("OWN", 5, 30), do("OWN", 6, 40))
}

// P12.1: REPORT puts a report of each kind that is made today behind the others.
func TestReport(t *testing.T) {
	put := func(r api.Report) change {
		return func(b *api.Bureau) { b.Desk.Reports = append(b.Desk.Reports, r) }
	}
	for kind, cents := range map[int]int{1: 0, 2: 7, 3: api.MaxMoney, 4: 0, 5: api.MaxLate, 6: 9, 7: 0} {
		effect(t, town(), do("REPORT", 1, 2, 3, 4, kind, cents, 0), "", put(api.Report{Id: 1, Source: 2, Account: 3, Made: 50, About: 4, Kind: uint8(kind), Cents: cents}))
	}
	effect(t, town(), do("REPORT", 999999, 999999, 999999, 100000, 8, 5, 0), "", put(api.Report{Id: 999999, Source: 999999, Account: 999999, Made: 50, About: 100000, Kind: 8, Cents: 5}))
	effect(t, town(), do("REPORT", 0, 70, 5, 0, 9, 0, 101), "", put(api.Report{Source: 70, Account: 5, Made: 50, Kind: 9, Of: 101}))
	// The same one may come again, on the same day.
	b := after(t, town(), do("REPORT", 1, 2, 3, 4, 3, 5, 0))
	effect(t, b, do("REPORT", 1, 2, 3, 4, 3, 5, 0), "", put(b.Desk.Reports[3]))
}

// P12.1: a REPORT is refused if it is none, or if a dispute has its Id.
func TestReportIsBad(t *testing.T) {
	good := do("REPORT", 110, 70, 5, 20, 8, 300, 101)
	after(t, town(), good)
	ids := odd(0, api.MaxId)
	bad(t, town(), others(good, ids, ids, ids, odd(0, api.MaxDay), odd(1, 9), []int{-1, -api.MaxTold}, append(ids, 110))...)
	bad(t, town(),
		do("REPORT", 110, 70, 5, 20, 259, 300, 0), do("REPORT", 110, 70, 5, 20, 3-256, 300, 0), do("REPORT", 110, 70, 5, 20, 3, 300, 101), do("REPORT", 110, 70, 5, 20, 7, 1, 0),
		do("REPORT", 110, 70, 5, 20, 5, 10001, 0), do("REPORT", 110, 70, 5, 1, 9, 0, 101), do("REPORT", 101, 70, 5, 20, 0, 0, 0),
	)
	bad(t, after(t, town(), do("DISPUTE", 110, 101)), good)
}

// P12.1: DISPUTE and ANSWER put one behind the others, on the day that it is.
func TestDisputeAndAnswer(t *testing.T) {
	dispute := func(x api.Dispute) change {
		return func(b *api.Bureau) { b.Desk.Disputes = append(b.Desk.Disputes, x) }
	}
	answer := func(a api.Answer) change {
		return func(b *api.Bureau) { b.Desk.Answers = append(b.Desk.Answers, a) }
	}
	effect(t, town(), do("DISPUTE", 0, 101), "", dispute(api.Dispute{Report: 101, Day: 50}))
	b := after(t, town(), do("DISPUTE", 200, 101), do("DAY", 52))
	effect(t, b, do("DISPUTE", 999999, 102), "", dispute(api.Dispute{Id: 999999, Report: 102, Day: 52}))
	bad(t, b, others(do("DISPUTE", 201, 102), append(odd(0, api.MaxId), 200, 101, 102), []int{200, 100, -1, 1<<32 + 102})...)
	effect(t, b, do("ANSWER", 0, 200, 1, 0, 0), "", answer(api.Answer{Dispute: 200, Day: 52, Says: 1}))
	effect(t, b, do("ANSWER", 999999, 200, 2, 21, 7), "", answer(api.Answer{Id: 999999, Dispute: 200, Day: 52, Says: 2, About: 21, Cents: 7}))
	effect(t, b, do("ANSWER", 101, 200, 3, 0, 0), "", answer(api.Answer{Id: 101, Dispute: 200, Day: 52, Says: 3}))
	bad(t, b, others(do("ANSWER", 1, 200, 1, 0, 0), odd(0, api.MaxId), []int{201, -1, 1<<32 + 200}, append(odd(1, 3), 255, 256, 257, -255, 258), []int{1}, []int{1})...)
	bad(t, b, others(do("ANSWER", 1, 200, 2, 20, 0), nil, nil, nil, odd(0, api.MaxDay), []int{-1, -api.MaxTold})...)
	bad(t, b, do("ANSWER", 1, 200, 3, 0, 1), do("ANSWER", 1, 200, 3, 1, 0))
	bad(t, after(t, b, do("DISPUTE", 201, 102), do("ANSWER", 4, 201, 1, 0, 0)), do("ANSWER", 4, 200, 1, 0, 0))
}

// P12.1: SIGNAL puts a signal in its place, by Bureau, and of the same one by Id.
func TestSignal(t *testing.T) {
	b := after(t, town(), do("SIGNAL", 3, 5, 20, 1, 0), do("SIGNAL", 1, 7, 10, 4, 60), do("DAY", 51), do("SIGNAL", 3, 2, 20, 2, 0), do("SIGNAL", 1, 0, 10, 5, 0))
	want := []api.Signal{{Bureau: 1, Id: 0, File: 10, Day: 51, Kind: 5}, {Bureau: 1, Id: 7, File: 10, Day: 50, Kind: 4, Until: 60}, {Bureau: 3, Id: 2, File: 20, Day: 51, Kind: 2}, {Bureau: 3, Id: 5, File: 20, Day: 50, Kind: 1}}
	if !slices.Equal(b.Gate.Signals, want) {
		t.Error(b.Gate.Signals)
	}
	for at, names := range map[int][][2]int{0: {{0, 0}, {0, 999999}}, 1: {{1, 1}, {1, 6}}, 2: {{1, 8}, {2, 0}, {2, 9}, {3, 0}, {3, 1}}, 3: {{3, 3}, {3, 4}}, 4: {{3, 6}, {4, 0}, {9, 999999}}} {
		for _, n := range names {
			s := api.Signal{Bureau: n[0], Id: n[1], File: 40, Day: 51, Kind: 3, Until: 51}
			effect(t, b, do("SIGNAL", n[0], n[1], 40, 3, 51), "", func(b *api.Bureau) { b.Gate.Signals = slices.Insert(b.Gate.Signals, at, s) })
		}
	}
	bad(t, b, others(do("SIGNAL", 0, 1, 20, 1, 0), odd(0, api.MaxBureau), odd(0, api.MaxId), []int{-1, 0, 11, 1<<32 + 10, api.MaxId + 1}, append(odd(1, 5), 257, 255, -255), []int{51, 60, -1})...)
	bad(t, b,
		do("SIGNAL", 1, 7, 10, 4, 60), do("SIGNAL", 3, 5, 20, 1, 0), do("SIGNAL", 3, 2, 40, 1, 0), do("SIGNAL", 0, 1, 20, 2, 51), do("SIGNAL", 0, 1, 20, 5, 51),
		do("SIGNAL", 0, 1, 20, 3, 50), do("SIGNAL", 0, 1, 20, 4, 0), do("SIGNAL", 0, 1, 20, 4, api.MaxDay+1), do("SIGNAL", 0, 1, 20, 3, 1<<32+51),
	)
}

// P12.1: ASK keeps an inquiry in its place, and says what becomes of it.
func TestAsk(t *testing.T) {
	b := after(t, town(), do("ASK", 9, 900, 40, 1, 0), do("DAY", 52), do("ASK", 4, 901, 20, 6, 1))
	if want := []api.Inquiry{{Id: 4, Day: 52, Who: 901, File: 20, Purpose: 6, Called: true}, {Id: 9, Day: 50, Who: 900, File: 40, Purpose: 1}}; !slices.Equal(b.Inquiries, want) {
		t.Error(b.Inquiries)
	}
	for at, ids := range map[int][]int{0: {0, 3}, 1: {5, 8}, 2: {10, 999999}} {
		for _, id := range ids {
			q := api.Inquiry{Id: id, Day: 52, Who: 900, File: 10, Purpose: 1}
			effect(t, b, do("ASK", id, 900, 10, 1, 0), "told", func(b *api.Bureau) { b.Inquiries = slices.Insert(b.Inquiries, at, q) })
		}
	}
	bad(t, b, others(do("ASK", 1, 900, 10, 1, 0), append(odd(0, api.MaxId), 4, 9), odd(0, api.MaxId), []int{-1, 0, 11, 1<<32 + 10, api.MaxId + 1}, append(odd(1, 6), 255, 256, 257, -255), append(odd(0, 1), 2, 256))...)
	bad(t, b, do("ASK", 4, 900, 40, 1, 0), do("ASK", 9, 901, 40, 1, 1))
}

// P12.1: what ASK says is what becomes of the inquiry, which is kept in each case.
func TestAskSays(t *testing.T) {
	frozen, alarmed := freeze(1, 10), do("SIGNAL", 0, 2, 10, api.SignalAlert, 60)
	for i, x := range []struct {
		before []act
		do     act
		said   string
	}{
		{nil, do("ASK", 1, 900, 10, 1, 0), "told"}, {nil, do("ASK", 1, 901, 10, 6, 0), "told"}, {nil, do("ASK", 1, 902, 10, 4, 0), "told"}, {nil, do("ASK", 1, 10, 10, 5, 0), "told"},
		{nil, do("ASK", 1, 900, 10, 2, 0), "purpose"}, {nil, do("ASK", 1, 901, 10, 1, 1), "purpose"}, {nil, do("ASK", 1, 900, 10, 5, 0), "purpose"}, {nil, do("ASK", 1, 30, 10, 5, 0), "purpose"}, {nil, do("ASK", 1, 10, 10, 1, 0), "purpose"},
		{[]act{frozen}, do("ASK", 1, 900, 10, 1, 1), "frozen"}, {[]act{frozen}, do("ASK", 1, 902, 10, 4, 0), "told"}, {[]act{frozen}, do("ASK", 1, 10, 10, 5, 0), "told"}, {[]act{frozen}, do("ASK", 1, 901, 10, 1, 0), "purpose"}, {[]act{frozen}, do("ASK", 1, 900, 20, 1, 0), "told"},
		{[]act{alarmed}, do("ASK", 1, 900, 10, 1, 0), "alert"}, {[]act{alarmed}, do("ASK", 1, 900, 10, 1, 1), "told"}, {[]act{alarmed}, do("ASK", 1, 901, 10, 6, 1), "alert"}, {[]act{alarmed, frozen}, do("ASK", 1, 900, 10, 1, 0), "frozen"},
		{[]act{frozen, do("DAY", 51), do("SIGNAL", 0, 3, 10, 3, 51)}, do("ASK", 1, 900, 10, 1, 0), "told"},
		{[]act{frozen, do("SIGNAL", 0, 3, 10, 3, 51), do("DAY", 52)}, do("ASK", 1, 900, 10, 1, 0), "frozen"},
		{[]act{alarmed, do("DAY", 61)}, do("ASK", 1, 900, 10, 1, 0), "told"},
	} {
		b := after(t, town(), x.before...)
		if got := x.do.to(b); got.said != x.said || got.e != api.OK || len(got.next.Inquiries) != 1 || len(got.next.Log) != len(b.Log)+1 {
			t.Error(i, x, got)
		}
	}
}

// P12.1: ErrWord is for words that are none, numbers that are too few or too many,
// and a note that should not be; then ErrArg for numbers and notes, then ErrFull.
func TestWordsNumbersAndNotes(t *testing.T) {
	full := town()
	full.Log = many(200, func(int) api.Entry { return api.Entry{Day: 50, Word: "DAY", Args: []int{50}} })
	for i, x := range entries() {
		a := act{x.entry.Word, x.entry.Args, x.entry.Note}
		want := api.ErrFull
		switch {
		case !a.knownAgain():
			want = api.ErrWord
		case !x.valid:
			want = api.ErrArg
		}
		got := a.to(town())
		if !a.to(full).is("", want) || (want != api.ErrFull) != (got.e == want) {
			t.Error(i, a, want, a.to(full), got)
		}
	}
	for _, x := range []act{{"DAY", []int{51}, "a"}, {"DAY", []int{51}, strings.Repeat("A", 201)}, {"day", huge(), "a"}, {"RECORD", huge()[:4], "a"}, {"", nil, ""}} {
		if got := x.to(full); !got.is("", api.ErrWord) {
			t.Error(x, got)
		}
	}
	for _, n := range huge() {
		for at := range 23 {
			x := noted("ELM/", make([]int, 23)...)
			x.Args[at] = n
			if got := x.to(full); !got.is("", api.ErrArg) {
				t.Error(at, got)
			}
		}
	}
	b := town()
	b.Log = full.Log[:199]
	effect(t, b, do("DAY", 51), "", func(b *api.Bureau) { b.Day = 51 })
	b = after(t, b, do("DAY", 51))
	if got := do("DAY", 52).to(b); !got.is("", api.ErrFull) {
		t.Error(got)
	}
}

// P12.1: each command has ErrFull if there is no room in its list, before ErrBad, and
// none if there is room for one more.
func TestFull(t *testing.T) {
	b := town()
	b.Owners, b.Records = nil, many(24, func(i int) api.Record { return record(i, "LEE", "", 1) })
	b.Ops = many(40, func(i int) api.Op { return api.Op{Id: i + 1, Kind: api.OpSplit, A: i, B: i + 1} })
	b.Owners = many(40, func(i int) api.Owner { return api.Owner{Account: i + 10, Record: 3} })
	b.Desk.Reports = many(60, func(i int) api.Report { return owed(i, 5, 50, 50) })
	b.Desk.Disputes = many(20, func(i int) api.Dispute { return api.Dispute{Id: 100 + i, Report: i, Day: 50} })
	b.Desk.Answers = many(40, func(i int) api.Answer { return api.Answer{Id: i, Dispute: 100, Day: 50, Says: api.AnswerStands} })
	b.Gate.Signals = many(40, func(i int) api.Signal { return api.Signal{Bureau: 2, Id: i, File: 3, Day: 50, Kind: api.SignalThaw} })
	b.Inquiries = many(40, func(i int) api.Inquiry { return api.Inquiry{Id: i, Purpose: 1} })
	for i, x := range []struct {
		good, bad act
		room      change
	}{
		{noted("LEE/", 30, 0, 1, 1, 0), noted("", -1, -1, -1, -1, -1), func(b *api.Bureau) { b.Records = b.Records[:23] }},
		{do("MERGE", 60, 1, 3), do("MERGE", -1, 3, 1), func(b *api.Bureau) { b.Ops = b.Ops[:39] }},
		{do("SPLIT", 60, 1, 3), do("SPLIT", -1, 3, 1), func(b *api.Bureau) { b.Ops = b.Ops[:39] }},
		{do("UNDO", 60, 1), do("UNDO", -1, -1), func(b *api.Bureau) { b.Ops = b.Ops[:39] }},
		{do("OWN", 9, 3), do("OWN", -1, -1), func(b *api.Bureau) { b.Owners = b.Owners[:39] }},
		{do("REPORT", 200, 1, 1, 1, 3, 1, 0), do("REPORT", -1, -1, -1, -1, -1, -1, -1), func(b *api.Bureau) { b.Desk.Reports = b.Desk.Reports[:59] }},
		{do("DISPUTE", 200, 30), do("DISPUTE", -1, -1), func(b *api.Bureau) { b.Desk.Disputes = b.Desk.Disputes[:19] }},
		{do("ANSWER", 200, 101, 1, 0, 0), do("ANSWER", -1, -1, -1, -1, -1), func(b *api.Bureau) { b.Desk.Answers = b.Desk.Answers[:39] }},
		{do("SIGNAL", 1, 1, 0, 1, 0), do("SIGNAL", -1, -1, -1, -1, -1), func(b *api.Bureau) { b.Gate.Signals = b.Gate.Signals[:39] }},
		{do("ASK", 200, 900, 0, 1, 0), do("ASK", -1, -1, -1, -1, -1), func(b *api.Bureau) { b.Inquiries = b.Inquiries[:39] }},
	} {
		if x.good.to(b).e != api.ErrFull || !x.bad.to(b).is("", api.ErrFull) {
			t.Error(i, x.good.to(b), x.bad.to(b))
		}
		room := deep(b)
		x.room(&room)
		if got := x.good.to(room); got.e != api.OK || !x.good.to(got.next).is("", api.ErrFull) {
			t.Error(i, got.said, got.e)
		}
		if got := x.bad.to(room); !got.is("", api.ErrBad) {
			t.Error(i, got)
		}
	}
	if e := clerk.Check(b); e != api.OK {
		t.Error(e)
	}
}
