package clerk_test

import (
	"fmt"
	"slices"
	"testing"

	"goodname/api"
)

// shown is the page of a record, which has to be there.
func shown(t *testing.T, b api.Bureau, record int, purpose uint8) api.Page {
	t.Helper()
	got := page(b, record, purpose)
	if got.e != api.OK {
		t.Fatal(record, purpose, got.e)
	}
	return got.page
}

// P12.3: a page has all records of the file of a record, whichever this one is, and
// their accounts.
func TestPageOfFile(t *testing.T) {
	b := after(t, town(), do("OWN", 7, 20), do("OWN", 1, 10), do("OWN", 6000, 30), do("OWN", 0, 20))
	merged := after(t, b, do("MERGE", 1, 20, 30))
	for i, x := range []struct {
		b                         api.Bureau
		ids, of, records, account []int
	}{
		{b, []int{10, 30}, nil, []int{10, 30}, []int{1, 5, 6000}},
		{b, []int{20}, nil, []int{20}, []int{0, 7}},
		{b, []int{40}, nil, []int{40}, []int{6}},
		{b, []int{50}, nil, []int{50}, nil},
		{merged, []int{10, 20, 30}, nil, []int{10, 20, 30}, []int{0, 1, 5, 7, 6000}},
		{merged, []int{40}, nil, []int{40}, []int{6}},
	} {
		for _, id := range x.ids {
			for purpose := range uint8(6) {
				p := shown(t, x.b, id, purpose+1)
				var accounts []int
				for _, l := range p.Lines {
					accounts = append(accounts, l.Account)
				}
				if !slices.Equal(p.Records, x.records) || !slices.Equal(accounts, x.account) {
					t.Error(i, id, p)
				}
			}
		}
	}
}

// P12.3: ErrArg comes before ErrNone, and this before ErrFull.
func TestErrorsOfPage(t *testing.T) {
	full := town()
	full.Desk.Reports = many(60, func(i int) api.Report { return owed(i, 5, 40, 40) })
	full.Desk.Disputes = []api.Dispute{{Id: 100, Report: 1, Day: 40}}
	for purpose := range 256 {
		for _, id := range []int{-1, 0, 10, 11, 30, 50, 51, 1<<32 + 10, api.MaxId + 1} {
			there := id == 10 || id == 30 || id == 50
			for i, b := range []api.Bureau{town(), full} {
				room := i == 0
				want := api.OK
				switch {
				case purpose < 1 || purpose > 6:
					want = api.ErrArg
				case !there:
					want = api.ErrNone
				case !room:
					want = api.ErrFull
				}
				if got := page(b, id, uint8(purpose)); got.e != want || want != api.OK && !same(got, paged{e: want}) {
					t.Error(purpose, id, room, got)
				}
			}
		}
	}
}

// P12.3, P12.10: a line is what is shown of the account on the day, by the reports
// that count, with a mark for each fact.
func TestLines(t *testing.T) {
	disputed := []act{do("DISPUTE", 200, 101), do("DISPUTE", 201, 102)}
	on := func(day int, l ...act) []act { return slices.Concat(disputed, l, []act{do("DAY", day)}) }
	stands, fixes, drops := do("ANSWER", 1, 200, 1, 0, 0), do("ANSWER", 1, 200, 2, 25, 60), do("ANSWER", 1, 200, 3, 0, 0)
	for i, x := range []struct {
		before []act
		shown  []int
		marks  []uint8
		cents  int
		ends   int
		is     uint8
	}{
		{nil, []int{101, 102}, []uint8{0, 0}, 100, 61, api.AccountDefault},
		{[]act{do("DAY", 60)}, []int{101, 102}, []uint8{0, 0}, 100, 61, api.AccountDefault},
		{[]act{do("DAY", 61)}, []int{102}, []uint8{0}, 0, 81, api.AccountDefault},
		{[]act{do("DAY", 81)}, nil, nil, 0, api.NeverEnds, api.AccountNone},
		{disputed, []int{101, 102}, []uint8{1, 1}, 100, 61, api.AccountDefault},
		{disputed[1:], []int{101, 102}, []uint8{0, 1}, 100, 61, api.AccountDefault},
		{on(55), []int{101, 102}, []uint8{1, 1}, 100, 61, api.AccountDefault},
		{on(56), nil, nil, 0, api.NeverEnds, api.AccountNone},
		{on(51, stands), []int{101, 102}, []uint8{2, 1}, 100, 61, api.AccountDefault},
		{on(60, stands), []int{101}, []uint8{2}, 100, 61, api.AccountOpen},
		{on(55, fixes), []int{101, 102}, []uint8{0, 1}, 60, 66, api.AccountDefault},
		{on(65, fixes), []int{101}, []uint8{0}, 60, 66, api.AccountOpen},
		{on(66, fixes), nil, nil, 0, api.NeverEnds, api.AccountNone},
		{on(51, drops), []int{102}, []uint8{1}, 0, 81, api.AccountDefault},
		{[]act{do("REPORT", 90, 71, 5, 20, 3, 130, 0)}, []int{90, 101, 102}, []uint8{0, 0, 0}, 0, 61, api.AccountDefault},
		{[]act{do("REPORT", 90, 71, 5, 40, 3, 130, 0), do("DISPUTE", 200, 102)}, []int{90, 101, 102}, []uint8{0, 0, 1}, 130, 61, api.AccountDefault},
		{[]act{do("REPORT", 90, 71, 6, 40, 3, 130, 0), do("REPORT", 91, 71, 5, 40, 1, 0, 0)}, []int{101, 102}, []uint8{0, 0}, 100, 61, api.AccountDefault},
	} {
		p := shown(t, after(t, town(), x.before...), 10, api.PurposeCredit)
		got := p.Lines[0]
		if len(p.Lines) != 1 || got.Account != 5 || !slices.Equal(got.View.Shown, x.shown) || !slices.Equal(got.Marks, x.marks) {
			t.Error(i, p)
		}
		if got.View.State.Owed.Cents != x.cents || got.View.Ends != x.ends || got.View.State.Is != x.is || got.View.Silent {
			t.Error(i, p)
		}
	}
}

// P12.3: a mark of a fact that stands stays as long as the terms tell.
func TestMarkOfPage(t *testing.T) {
	b := town()
	b.Code.Laws[0].Keep = 400
	b = after(t, b, do("DISPUTE", 200, 101), do("ANSWER", 1, 200, 1, 0, 0))
	for day, mark := range map[int]uint8{51: 2, 60: 2, 61: 0, 80: 0} {
		p := shown(t, after(t, b, do("DAY", day)), 30, api.PurposeSelf)
		if len(p.Lines) != 1 || !slices.Equal(p.Lines[0].Marks, []uint8{mark, 0}[:len(p.Lines[0].Marks)]) || len(p.Lines[0].Marks) != 2 {
			t.Error(day, p)
		}
	}
}

// P12.3: silence is told by the law of the land, and nothing is shown of an account
// without one.
func TestSilentAndHomeless(t *testing.T) {
	b := town()
	b.Code.Stills = []api.Still{{Land: 1, Days: 20, Means: api.StillClosed}}
	if p := shown(t, b, 10, api.PurposeSelf); p.Lines[0].View.Silent {
		t.Error(p)
	}
	p := shown(t, after(t, b, do("DAY", 51)), 10, api.PurposeSelf)
	if v := p.Lines[0].View; !v.Silent || v.State.Is != api.AccountClosed || v.State.Closed.Since != 50 {
		t.Error(p)
	}
	b.Homes = nil
	p = shown(t, b, 10, api.PurposeSelf)
	if len(p.Lines) != 1 || !same(p.Lines[0], api.Line{Account: 5, View: api.View{Ends: api.NeverEnds}}) {
		t.Error(p)
	}
}

// P12.3: whether a page is frozen, and has an alert, is told of the Id of the file, on
// the day.
func TestFrozenPage(t *testing.T) {
	alarm := func(file int) act { return do("SIGNAL", 1, file, file, api.SignalAlert, 55) }
	for i, x := range []struct {
		before        []act
		record        int
		frozen, alert bool
	}{
		{nil, 10, false, false},
		{[]act{freeze(1, 10)}, 10, true, false},
		{[]act{freeze(1, 10)}, 30, true, false},
		{[]act{freeze(1, 10)}, 20, false, false},
		{[]act{alarm(10)}, 30, false, true},
		{[]act{alarm(10), do("DAY", 55)}, 30, false, true},
		{[]act{alarm(10), do("DAY", 56)}, 30, false, false},
		{[]act{alarm(20), freeze(1, 10)}, 10, true, false},
		{[]act{alarm(20), do("MERGE", 1, 20, 30)}, 20, false, false},
		{[]act{alarm(10), freeze(1, 10), do("MERGE", 1, 20, 30)}, 20, true, true},
		{[]act{freeze(1, 10), do("DAY", 60), do("SIGNAL", 1, 1, 10, api.SignalThaw, 0)}, 30, false, false},
	} {
		for _, purpose := range []uint8{api.PurposeSelf, api.PurposeCredit, api.PurposeCourt} {
			if p := shown(t, after(t, town(), x.before...), x.record, purpose); p.Frozen != x.frozen || p.Alert != x.alert {
				t.Error(i, p)
			}
		}
	}
}

// P12.3, P12.9: traces are those of the first record, then those of the second one,
// and so on: those of each are by their days. Who asks for another purpose sees just
// what was told for credit lately.
func TestTracesOfPage(t *testing.T) {
	b := town()
	b.Inquiries = []api.Inquiry{{Id: 3, Day: 49, Who: 900, File: 30, Purpose: 1}, {Id: 4, Day: 47, Who: 900, File: 30, Purpose: 1}, {Id: 7, Day: 45, Who: 900, File: 20, Purpose: 1}, {Id: 8, Day: 45, Who: 900, File: 40, Purpose: 1}}
	b = after(t, b, do("ASK", 1, 900, 10, 1, 0), freeze(1, 10), do("DAY", 51), do("ASK", 5, 900, 10, 1, 0), do("ASK", 2, 901, 10, 6, 0), do("ASK", 6, 902, 10, 4, 0))
	trace := func(id, who, day int, purpose, became uint8) api.Trace {
		return api.Trace{Inquiry: id, Who: who, Day: day, Purpose: purpose, Became: became}
	}
	// On 50 the file was frozen, too, when 1 was told: what is signalled is of the
	// whole day.
	ten := []api.Trace{trace(1, 900, 50, 1, 2), trace(2, 901, 51, 6, 2), trace(5, 900, 51, 1, 2), trace(6, 902, 51, 4, 0)}
	twenty, thirty := []api.Trace{trace(7, 900, 45, 1, 0)}, []api.Trace{trace(4, 900, 47, 1, 0), trace(3, 900, 49, 1, 0)}
	for i, x := range []struct {
		before  []act
		record  int
		purpose uint8
		want    []api.Trace
	}{
		{nil, 10, 5, slices.Concat(ten, thirty)},
		{nil, 30, 5, slices.Concat(ten, thirty)},
		{nil, 20, 5, twenty},
		{nil, 50, 5, nil},
		{[]act{do("MERGE", 1, 20, 30)}, 20, 5, slices.Concat(ten, twenty, thirty)},
		{nil, 10, 1, thirty},
		{nil, 10, 4, thirty},
		{[]act{do("MERGE", 1, 20, 30)}, 20, 6, slices.Concat(twenty, thirty)},
		{[]act{do("DAY", 413)}, 10, 1, thirty[1:]},
		{[]act{do("DAY", 780)}, 10, 5, ten},
		{[]act{do("DAY", 781)}, 10, 5, ten[1:]},
	} {
		if p := shown(t, after(t, b, x.before...), x.record, x.purpose); !slices.Equal(p.Traces, x.want) {
			t.Error(fmt.Sprint(i, " ", p.Traces, x.want))
		}
	}
}
