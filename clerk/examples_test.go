package clerk_test

import (
	"testing"

	"goodname/api"
)

// example is the bureau of the chapter's examples.
func example() api.Bureau {
	return api.Bureau{
		Day:     100,
		Rules:   api.Rules{Letters: 1, Days: 5, Together: 3},
		Records: []api.Record{record(1, "KIM ADA", "111111111", 50), record(2, "KIM EVA", "", 50), record(3, "KIM ADA", "", 90)},
		Code:    api.Code{Laws: []api.Law{{Land: 5, Kind: api.RepOwed, Base: api.BaseAbout, Keep: 30}}},
		Homes:   []api.Home{{Account: 10, Land: 5}},
		Owners:  []api.Owner{{Account: 10, Record: 1}},
		Desk:    api.Desk{Terms: api.Terms{Answer: 10}, Reports: []api.Report{{Id: 7, Source: 4, Account: 10, Made: 60, About: 80, Kind: api.RepOwed, Cents: 500}}},
		Gate:    api.Gate{Licences: []api.Licence{{Who: 33, Purpose: api.PurposeCredit, From: 0, To: 200}}},
	}
}

// The chapter's examples, P12.1.
func TestExamplesOfCommands(t *testing.T) {
	for i, x := range []struct {
		before []act
		do     act
		said   string
		e      api.Errno
	}{
		{nil, do("ASK", 1, 33, 1, 1, 0), "told", api.OK},
		{nil, do("ASK", 1, 34, 1, 1, 0), "purpose", api.OK},
		{nil, do("MERGE", 1, 1, 3), "apart 1 3", api.ErrDoubt},
		{nil, do("DISPUTE", 20, 7), "", api.OK},
		{[]act{do("DISPUTE", 20, 7)}, do("DISPUTE", 21, 7), "open 20", api.ErrDoubt},
		{nil, do("SIGNAL", 0, 1, 1, 1, 0), "", api.OK},
		{[]act{do("SIGNAL", 0, 1, 1, 1, 0)}, do("ASK", 1, 33, 1, 1, 0), "frozen", api.OK},
	} {
		got := x.do.to(after(t, example(), x.before...))
		if got.said != x.said || got.e != x.e || (got.next.Day == 100) != (x.e == api.OK) {
			t.Error(i, got)
		}
	}
}

// The chapter's example of a text, P12.4 and P12.5.
func TestExampleOfText(t *testing.T) {
	log, text := []api.Entry{{Day: 5, Word: "DAY", Args: []int{5}}}, "5;DAY;5;\n#1;2367\n"
	if got := write(log); got != (written{text: text}) {
		t.Error(got)
	}
	if got := read(text); !same(got, told{log: log}) {
		t.Error(got)
	}
}

// DOC.md's example 12: a merge of two records that are apart is refused.
func TestExampleOfDocument(t *testing.T) {
	if got := do("MERGE", 1, 1, 3).to(example()); !got.is("apart 1 3", api.ErrDoubt) {
		t.Error(got)
	}
}
