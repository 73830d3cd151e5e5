package clerk_test

import (
	"testing"

	"goodname/api"
)

// trial is a command after others, and how it has to be answered.
type trial struct {
	before []act
	do     act
	said   string
	e      api.Errno
}

// trials looks whether commands are answered so, in a bureau that is given.
func trials(t *testing.T, b api.Bureau, l []trial) {
	t.Helper()
	for i, x := range l {
		got := x.do.to(after(t, b, x.before...))
		if got.said != x.said || got.e != x.e || x.e != api.OK && !got.is(x.said, x.e) {
			t.Errorf("%d %v: %q %v", i, x.do, got.said, got.e)
		}
	}
}

// P12.1, P12.11: a merge that would be blocked names the first records of both files
// that are apart.
func TestApart(t *testing.T) {
	trials(t, town(), []trial{
		{nil, do("MERGE", 1, 10, 40), "apart 10 40", api.ErrDoubt},
		{nil, do("MERGE", 1, 30, 40), "apart 10 40", api.ErrDoubt},
		{nil, do("MERGE", 1, 20, 40), "apart 20 40", api.ErrDoubt},
		{nil, do("MERGE", 1, 40, 50), "apart 40 50", api.ErrDoubt},
		{nil, do("MERGE", 1, 10, 20), "", api.OK},
		{nil, do("MERGE", 1, 10, 30), "", api.OK},
		{[]act{do("MERGE", 1, 10, 20)}, do("MERGE", 2, 20, 30), "", api.OK},
		{[]act{do("SPLIT", 1, 20, 30)}, do("MERGE", 2, 20, 30), "apart 20 30", api.ErrDoubt},
		// With a lesser Id the merge comes first, but 10 and 30 would not be parted by it.
		{[]act{do("SPLIT", 5, 20, 30)}, do("MERGE", 2, 10, 20), "", api.OK},
		{[]act{do("SPLIT", 5, 20, 30), do("UNDO", 6, 5)}, do("MERGE", 2, 20, 30), "", api.OK},
		{[]act{do("SPLIT", 5, 20, 30), do("UNDO", 6, 5), do("UNDO", 7, 6)}, do("MERGE", 2, 20, 30), "apart 20 30", api.ErrDoubt},
		// The file of 10 has 20 by a merge that comes before, not by one that comes after.
		{[]act{do("MERGE", 3, 10, 20), do("SPLIT", 5, 20, 30)}, do("MERGE", 2, 10, 30), "", api.OK},
		{[]act{do("MERGE", 3, 10, 20), do("SPLIT", 5, 20, 30)}, do("MERGE", 4, 10, 30), "apart 20 30", api.ErrDoubt},
		// An op that is no merge is not blocked.
		{nil, do("SPLIT", 1, 10, 40), "", api.OK},
	})
}

// P12.11: of all pairs of both files that are apart the first one is named, also if
// none of its records is in the merge.
func TestFirstOfThoseApart(t *testing.T) {
	b := town()
	b.Records = many(6, func(i int) api.Record { return record(i, "LEE ANNA", "", 10) })
	b.Owners = nil
	trials(t, b, []trial{
		{[]act{do("MERGE", 1, 1, 5), do("MERGE", 2, 2, 4), do("SPLIT", 3, 4, 5)}, do("MERGE", 6, 1, 2), "apart 4 5", api.ErrDoubt},
		{[]act{do("MERGE", 1, 1, 5), do("MERGE", 2, 2, 4), do("SPLIT", 3, 4, 5), do("SPLIT", 4, 2, 5)}, do("MERGE", 6, 1, 4), "apart 2 5", api.ErrDoubt},
		{[]act{do("MERGE", 1, 1, 5), do("MERGE", 2, 2, 4), do("SPLIT", 3, 4, 5), do("SPLIT", 4, 1, 4)}, do("MERGE", 6, 2, 5), "apart 1 4", api.ErrDoubt},
		{[]act{do("MERGE", 1, 1, 5), do("MERGE", 2, 2, 4), do("SPLIT", 3, 0, 3)}, do("MERGE", 6, 2, 5), "", api.OK},
		// 0 and 3 are in other files.
		{[]act{do("MERGE", 1, 1, 5), do("MERGE", 2, 2, 4), do("SPLIT", 3, 0, 1), do("SPLIT", 4, 0, 2), do("SPLIT", 7, 3, 5), do("SPLIT", 8, 1, 2)}, do("MERGE", 6, 4, 5), "apart 1 2", api.ErrDoubt},
	})
}

// P12.1, P12.11: a file that is frozen keeps its Id: it is the least one that would
// not, that is named.
func TestFrozen(t *testing.T) {
	trials(t, town(), []trial{
		{[]act{freeze(1, 20)}, do("MERGE", 1, 10, 20), "frozen 20", api.ErrDoubt},
		{[]act{freeze(1, 10)}, do("MERGE", 1, 10, 20), "", api.OK},
		{[]act{freeze(1, 20), do("SIGNAL", 0, 2, 20, api.SignalThaw, 0)}, do("MERGE", 1, 10, 20), "", api.OK},
		{[]act{freeze(1, 20), do("SIGNAL", 0, 2, 20, api.SignalLift, 50)}, do("MERGE", 1, 10, 20), "", api.OK},
		{[]act{freeze(1, 20), do("SIGNAL", 0, 2, 20, api.SignalLift, 50), do("DAY", 51)}, do("MERGE", 1, 10, 20), "frozen 20", api.ErrDoubt},
		{[]act{do("SIGNAL", 0, 2, 20, api.SignalAlert, 60)}, do("MERGE", 1, 10, 20), "", api.OK},
		// What is apart is told before that.
		{[]act{freeze(1, 40)}, do("MERGE", 1, 10, 40), "apart 10 40", api.ErrDoubt},
		// A record that comes, and has a lesser Id, or brings files together.
		{[]act{freeze(1, 10)}, noted("LEE ANNA/123456789", 5, 0, 11, 11, 0), "frozen 10", api.ErrDoubt},
		{[]act{freeze(1, 10)}, noted("LEE ANNA/123456789", 15, 0, 11, 11, 0), "", api.OK},
		{[]act{freeze(1, 20)}, noted("LEE ANNA/123456789", 5, 0, 11, 11, 0), "", api.OK},
		{nil, noted("LEE ANNA/123456789", 5, 0, 11, 11, 0), "", api.OK},
		// A split that takes the record with the least Id away leaves two files, of
		// which one has it; the other one was not there.
		{[]act{freeze(1, 10)}, do("SPLIT", 1, 10, 30), "", api.OK},
		{[]act{do("SPLIT", 1, 10, 30), freeze(1, 30)}, do("UNDO", 2, 1), "frozen 30", api.ErrDoubt},
		{[]act{do("SPLIT", 1, 10, 30), freeze(1, 10)}, do("UNDO", 2, 1), "", api.OK},
		{[]act{do("MERGE", 1, 10, 20), freeze(1, 10)}, do("UNDO", 2, 1), "", api.OK},
		{[]act{do("MERGE", 1, 10, 20), do("UNDO", 2, 1), freeze(1, 20)}, do("UNDO", 3, 2), "frozen 20", api.ErrDoubt},
		// A split of 10 and 20 lets 30 come back to 10.
		{[]act{do("SPLIT", 1, 20, 30), do("MERGE", 2, 10, 20), freeze(1, 30)}, do("SPLIT", 3, 10, 20), "frozen 30", api.ErrDoubt},
		// Other commands have nothing to do with that.
		{[]act{freeze(1, 20), freeze(2, 10)}, do("OWN", 9, 20), "", api.OK},
		{[]act{freeze(1, 20), freeze(2, 10)}, do("DAY", 51), "", api.OK},
	})
}

// P12.11: of several files that are frozen the least one is named that would be no
// file any more.
func TestLeastOfFrozen(t *testing.T) {
	b := town()
	b.Records = []api.Record{record(60, "LEE ANNA", "", 10), record(20, "LEE ANNA", "222222222", 10), record(40, "LEE ANNE", "222222229", 10), record(10, "FOX MAX", "", 10), record(70, "FOX MAX", "333333333", 10)}
	b.Owners, b.Rules.Digits, b.Rules.Letters = nil, 0, 0
	both := noted("LEE ANNA/222222222", 5, 0, 10, 10, 0, 1, 1, 9)
	all := []act{freeze(1, 60), freeze(2, 20), freeze(3, 40), freeze(4, 10), freeze(5, 70)}
	trials(t, b, []trial{
		{all, both, "frozen 20", api.ErrDoubt},
		{[]act{freeze(1, 60), freeze(3, 40)}, both, "", api.OK},
		{[]act{freeze(1, 60), freeze(2, 20)}, do("MERGE", 1, 20, 60), "frozen 60", api.ErrDoubt},
		{all, do("MERGE", 1, 10, 70), "frozen 70", api.ErrDoubt},
	})
	// 5 is merged with 60, and with 20 by its number, if it comes.
	b.Ops = []api.Op{{Id: 1, Kind: api.OpMerge, A: 5, B: 60}}
	trials(t, b, []trial{
		{all, both, "frozen 20", api.ErrDoubt},
		{[]act{freeze(1, 60)}, both, "frozen 60", api.ErrDoubt},
		{[]act{freeze(1, 60), freeze(4, 10), freeze(5, 70)}, both, "frozen 60", api.ErrDoubt},
		{[]act{freeze(3, 40)}, both, "", api.OK},
	})
}

// P12.1, P12.11: a report differs from one with its Id, whatever it is that differs.
func TestDiffers(t *testing.T) {
	first := do("REPORT", 110, 70, 5, 20, 8, 300, 101)
	b := after(t, town(), first)
	for i, n := range []int{0, 71, 6, 21, 2, 301, 102} {
		x := do("REPORT", 110, 70, 5, 20, 8, 300, 101)
		if i == 0 {
			continue
		}
		x.Args[i] = n
		if i == 4 {
			x.Args[6] = 0
		}
		if got := x.to(b); !got.is("differs", api.ErrDoubt) {
			t.Error(x, got)
		}
	}
	trials(t, b, []trial{
		{nil, first, "", api.OK},
		{[]act{do("DAY", 51)}, first, "differs", api.ErrDoubt},
		{nil, do("REPORT", 101, 70, 5, 20, 3, 100, 0), "differs", api.ErrDoubt},
		{nil, do("REPORT", 103, 70, 5, 20, 3, 100, 0), "differs", api.ErrDoubt},
		{nil, do("REPORT", 111, 70, 5, 20, 3, 100, 0), "", api.OK},
		// What is no report is bad, also if it has this Id.
		{nil, do("REPORT", 110, 70, 5, 20, 0, 300, 101), "", api.ErrBad},
	})
}

// P12.1, P12.11: of a report one dispute is open at a time; of several ones that are,
// in a bureau that is given, the least Id is named.
func TestOpen(t *testing.T) {
	trials(t, town(), []trial{
		{[]act{do("DISPUTE", 201, 101)}, do("DISPUTE", 200, 101), "open 201", api.ErrDoubt},
		{[]act{do("DISPUTE", 201, 101)}, do("DISPUTE", 200, 102), "", api.OK},
		{[]act{do("DISPUTE", 201, 101), do("DAY", 55)}, do("DISPUTE", 200, 101), "open 201", api.ErrDoubt},
		{[]act{do("DISPUTE", 201, 101), do("DISPUTE", 200, 102), do("DAY", 52), do("ANSWER", 1, 201, 1, 0, 0)}, do("DISPUTE", 202, 101), "", api.OK},
		{[]act{do("DISPUTE", 201, 101), do("DISPUTE", 200, 102), do("DAY", 52), do("ANSWER", 1, 201, 2, 20, 7)}, do("DISPUTE", 202, 101), "", api.OK},
		// Before hidden: 103 is not shown.
		{nil, do("DISPUTE", 202, 103), "hidden", api.ErrDoubt},
	})
	b := town()
	b.Desk.Disputes = []api.Dispute{{Id: 203, Report: 101, Day: 50}, {Id: 201, Report: 101, Day: 47}, {Id: 202, Report: 103, Day: 50}, {Id: 200, Report: 102, Day: 50}, {Id: 199, Report: 101, Day: 44}}
	trials(t, b, []trial{
		{nil, do("DISPUTE", 1, 101), "open 201", api.ErrDoubt},
		{nil, do("DISPUTE", 1, 103), "open 202", api.ErrDoubt},
		{[]act{do("DAY", 53)}, do("DISPUTE", 1, 101), "open 203", api.ErrDoubt},
		{nil, do("DISPUTE", 201, 101), "", api.ErrBad},
	})
}

// P12.1, P12.11: only what is shown on the day is disputed.
func TestHidden(t *testing.T) {
	homeless := town()
	homeless.Homes = homeless.Homes[1:]
	trials(t, homeless, []trial{{nil, do("DISPUTE", 200, 101), "hidden", api.ErrDoubt}})
	trials(t, town(), []trial{
		{nil, do("DISPUTE", 200, 101), "", api.OK},
		{[]act{do("DAY", 60)}, do("DISPUTE", 200, 101), "", api.OK},
		{[]act{do("DAY", 61)}, do("DISPUTE", 200, 101), "hidden", api.ErrDoubt},
		{[]act{do("DAY", 61)}, do("DISPUTE", 200, 102), "", api.OK},
		{[]act{do("DAY", 81)}, do("DISPUTE", 200, 102), "hidden", api.ErrDoubt},
		{nil, do("DISPUTE", 200, 103), "hidden", api.ErrDoubt},
		// What is about a later day is not shown yet.
		{[]act{do("REPORT", 110, 70, 6, 51, 3, 1, 0)}, do("DISPUTE", 200, 110), "hidden", api.ErrDoubt},
		{[]act{do("REPORT", 110, 70, 6, 51, 3, 1, 0), do("DAY", 51)}, do("DISPUTE", 200, 110), "", api.OK},
		// What has no law, or no owner: an owner is not needed.
		{[]act{do("REPORT", 110, 70, 6, 50, 1, 0, 0)}, do("DISPUTE", 200, 110), "hidden", api.ErrDoubt},
		{[]act{do("REPORT", 110, 70, 7, 50, 3, 0, 0)}, do("DISPUTE", 200, 110), "hidden", api.ErrDoubt},
		// What is withdrawn, dropped, or corrected by its source or by a dispute.
		{[]act{do("REPORT", 110, 70, 5, 0, 9, 0, 101)}, do("DISPUTE", 200, 101), "hidden", api.ErrDoubt},
		{[]act{do("REPORT", 110, 70, 5, 9, 8, 100, 101)}, do("DISPUTE", 200, 101), "hidden", api.ErrDoubt},
		{[]act{do("REPORT", 110, 70, 5, 21, 8, 0, 101), do("DAY", 61)}, do("DISPUTE", 200, 101), "", api.OK},
		{[]act{do("DISPUTE", 200, 101), do("ANSWER", 1, 200, 3, 0, 0)}, do("DISPUTE", 201, 101), "hidden", api.ErrDoubt},
		{[]act{do("DISPUTE", 200, 101), do("ANSWER", 1, 200, 1, 0, 0)}, do("DISPUTE", 201, 101), "", api.OK},
		{[]act{do("DISPUTE", 200, 101), do("ANSWER", 1, 200, 2, 9, 0)}, do("DISPUTE", 201, 101), "hidden", api.ErrDoubt},
		{[]act{do("DISPUTE", 200, 101), do("DAY", 56)}, do("DISPUTE", 201, 101), "hidden", api.ErrDoubt},
		// A correction is no fact.
		{[]act{do("REPORT", 110, 70, 5, 21, 8, 0, 101)}, do("DISPUTE", 200, 110), "", api.ErrBad},
	})
}

// P12.1: if reports with what follows of disputes are more than 60, nothing is shown,
// and nothing is disputed.
func TestTooManyFollow(t *testing.T) {
	b := town()
	b.Desk.Reports = many(58, func(i int) api.Report { return owed(i, 5, 40, 40) })
	b.Desk.Disputes = many(3, func(i int) api.Dispute { return api.Dispute{Id: 100 + i, Report: i, Day: 44 + i} })
	trials(t, b, []trial{
		{nil, do("DISPUTE", 200, 7), "", api.OK},
		{[]act{do("DAY", 51)}, do("DISPUTE", 200, 7), "", api.OK},
		{[]act{do("DAY", 52)}, do("DISPUTE", 200, 7), "", api.ErrFull},
		{[]act{do("DAY", 52)}, do("DISPUTE", 200, 100), "", api.ErrBad},
		{[]act{do("DISPUTE", 200, 7), do("DAY", 52)}, do("DISPUTE", 201, 7), "open 200", api.ErrDoubt},
		{[]act{do("DAY", 52)}, do("REPORT", 200, 1, 1, 1, 3, 1, 0), "", api.OK},
	})
	for day, e := range map[int]api.Errno{51: api.OK, 52: api.ErrFull, 53: api.ErrFull} {
		late := after(t, b, do("DAY", day))
		if got := page(late, 10, api.PurposeSelf); got.e != e || e != api.OK && !same(got, paged{e: e}) {
			t.Error(day, got)
		}
	}
}

// P12.1, P12.11: an answer is late if the dispute is decided already.
func TestLate(t *testing.T) {
	disputed, answer := do("DISPUTE", 200, 101), do("ANSWER", 7, 200, 1, 0, 0)
	trials(t, town(), []trial{
		{[]act{disputed}, answer, "", api.OK},
		{[]act{disputed, do("DAY", 55)}, answer, "", api.OK},
		{[]act{disputed, do("DAY", 56)}, answer, "late", api.ErrDoubt},
		{[]act{disputed, do("DAY", 56)}, do("ANSWER", 7, 200, 0, 0, 0), "", api.ErrBad},
		{[]act{disputed, do("ANSWER", 8, 200, 3, 0, 0)}, answer, "late", api.ErrDoubt},
		{[]act{disputed, do("ANSWER", 6, 200, 2, 20, 5), do("DAY", 51)}, answer, "late", api.ErrDoubt},
		{[]act{disputed, do("DISPUTE", 201, 102), do("ANSWER", 8, 201, 3, 0, 0)}, answer, "", api.OK},
		{nil, answer, "", api.ErrBad},
	})
}

// P12.1, P12.11: signals and inquiries name a file by its own Id.
func TestFile(t *testing.T) {
	ask := func(file int) act { return do("ASK", 1, 900, file, 1, 0) }
	trials(t, town(), []trial{
		{nil, freeze(1, 30), "file 10", api.ErrDoubt}, {nil, ask(30), "file 10", api.ErrDoubt},
		{nil, freeze(1, 10), "", api.OK}, {nil, ask(10), "told", api.OK},
		{nil, freeze(1, 20), "", api.OK}, {nil, ask(20), "told", api.OK},
		{[]act{do("MERGE", 1, 20, 30)}, freeze(1, 20), "file 10", api.ErrDoubt}, {[]act{do("MERGE", 1, 20, 30)}, ask(20), "file 10", api.ErrDoubt},
		{[]act{do("SPLIT", 1, 10, 30)}, freeze(1, 30), "", api.OK}, {[]act{do("SPLIT", 1, 10, 30)}, ask(30), "told", api.OK},
		{[]act{noted("LEE ANNA/123456789", 5, 0, 11, 11, 0)}, freeze(1, 10), "file 5", api.ErrDoubt}, {[]act{noted("LEE ANNA/123456789", 5, 0, 11, 11, 0)}, ask(10), "file 5", api.ErrDoubt},
		{nil, freeze(1, 11), "", api.ErrBad}, {nil, ask(11), "", api.ErrBad},
		// What is bad comes before.
		{nil, do("SIGNAL", 0, 1, 30, 6, 0), "", api.ErrBad}, {nil, do("ASK", 1, 900, 30, 0, 0), "", api.ErrBad},
	})
}
