package match_test

import (
	"strings"
	"testing"

	"goodname/api"
	"goodname/match"
)

// P1.1: rules at their limits are valid, and none beyond them.
func TestRules(t *testing.T) {
	for i, r := range []api.Rules{
		ordinary(),
		{Together: 1},
		{Letters: 5, Digits: 5, Days: 1000, Together: 1000},
		{Letters: 5, Together: 1}, {Digits: 5, Together: 1}, {Days: 1000, Together: 1}, {Together: 1000},
	} {
		if e := match.Check(r, made()); e != api.OK {
			t.Error(i, r, e)
		}
	}
	for i, r := range badRules() {
		if e := match.Check(r, made()); e != api.ErrRules {
			t.Error(i, r, e)
		}
	}
}

// P1.1: records at their limits are valid.
func TestRecordsThatAreValid(t *testing.T) {
	full := strings.Repeat("Z", api.MaxWord)
	for i, c := range []change{
		func(a *api.Record) {}, twin,
		id(0), id(api.MaxId),
		names("A"), names("Z"), names(full), names("A", "B", "C", "D", "E"), names(full, full, full, full, full), names("ABCDEFGHIJKLMNOPQRST", "UVWXYZ"),
		suffix(api.SuffixNone), suffix(api.SuffixSenior), suffix(api.SuffixJunior),
		born(0, 0), born(api.MaxDay, api.MaxDay), born(0, api.MaxDay), born(7, 8),
		number(""), number("000000000"), number("999999999"), number("012345678"),
		stays(), stay(0, 0, 0), stay(api.MaxPlace, api.MaxDay, api.MaxDay), stay(5, 0, api.MaxDay), stays(make([]api.Stay, api.MaxStays)...),
		func(a *api.Record) { *a = api.Record{Names: []string{"A"}} },
	} {
		if e := match.Check(ordinary(), made(c)); e != api.OK {
			t.Error(i, made(c), e)
		}
	}
}

// P1.1: one thing that is wrong in a record is enough.
func TestRecordsThatAreNotValid(t *testing.T) {
	for i, c := range badChanges() {
		if e := match.Check(ordinary(), made(c)); e != api.ErrRecord {
			t.Error(i, made(c), e)
		}
	}
	if e := match.Check(ordinary(), api.Record{}); e != api.ErrRecord {
		t.Error("the zero record has no names", e)
	}
}

// P1.1 and R1: rules come before records.
func TestRulesComeFirst(t *testing.T) {
	for i, r := range badRules() {
		if e := match.Check(r, api.Record{}); e != api.ErrRules {
			t.Error(i, r, e)
		}
	}
}
