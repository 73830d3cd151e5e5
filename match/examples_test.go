package match_test

import (
	"slices"
	"testing"

	"goodname/api"
	"goodname/match"
)

// The records of the chapter's examples; that with the Id n is at n-1.
func exampleRecords() []api.Record {
	return []api.Record{
		{Id: 1, Names: []string{"SMITH", "JOHN", "PAUL"}, Born: api.Span{Lo: 5000, Hi: 5000}, Number: "123456789", Stays: []api.Stay{{Place: 7, From: 100, To: 200}}},
		{Id: 2, Names: []string{"SMYTH", "JOHN"}, Born: api.Span{Lo: 5000, Hi: 5000}, Number: "123456780", Stays: []api.Stay{{Place: 7, From: 150, To: 300}}},
		{Id: 3, Names: []string{"SMITH", "J"}, Born: api.Span{Lo: 5000, Hi: 5000}, Stays: []api.Stay{{Place: 7, From: 180, To: 190}}},
		{Id: 4, Names: []string{"SMITH", "JOHN"}, Suffix: api.SuffixJunior, Born: api.Span{Lo: 14000, Hi: 14100}, Stays: []api.Stay{{Place: 7, From: 100, To: 400}}},
		{Id: 5, Names: []string{"SMITH", "JOHN", "PAUL"}, Suffix: api.SuffixSenior, Born: api.Span{Lo: 5000, Hi: 5000}, Number: "987654321", Stays: []api.Stay{{Place: 8, From: 0, To: 50}}},
	}
}

func exampleRules() api.Rules { return api.Rules{Letters: 2, Digits: 1, Days: 30, Together: 10} }

func TestExamplesOfEdits(t *testing.T) {
	if n := edits(t, "SMITH", "SMYTHE"); n != 2 {
		t.Error(n)
	}
	if n := edits(t, "", "AB"); n != 2 {
		t.Error(n)
	}
}

func TestExamplesOfCompare(t *testing.T) {
	l := exampleRecords()
	for _, x := range []struct {
		a, b int
		want api.Match
	}{
		{1, 2, api.Match{Names: like, Number: like, Born: same, Place: same, One: api.KnownOpen}},
		{1, 3, api.Match{Names: same, Number: open, Born: same, Place: same, One: api.KnownYes}},
		{1, 4, api.Match{Names: same, Number: open, Born: not, Place: same, One: api.KnownNo}},
		{4, 5, api.Match{Names: same, Number: open, Born: not, Place: open, One: api.KnownNo}},
		{1, 5, api.Match{Names: same, Number: not, Born: same, Place: open, One: api.KnownNo}},
	} {
		if m, ok := compared(exampleRules(), l[x.a-1], l[x.b-1]); !ok || m != x.want {
			t.Error(x.a, x.b, m)
		}
	}
}

func TestExampleOfPairs(t *testing.T) {
	sure, open, e := match.Pairs(exampleRules(), exampleRecords()[:3])
	if e != api.OK || !slices.Equal(sure, [][2]int{{1, 3}}) || !slices.Equal(open, [][2]int{{1, 2}, {2, 3}}) {
		t.Error(sure, open, e)
	}
}

func TestExampleOfHomes(t *testing.T) {
	if h, e := match.Homes(exampleRecords(), 185); e != api.OK || !sameHomes(h, [][]int{{1, 2, 3, 4}}) {
		t.Error(h, e)
	}
}

// DOC.md, example 1, and N1: eleven days together, born on one day, make SMITH
// JOHN and SMITH J one person; nine do not.
func TestExampleOfTheDocument(t *testing.T) {
	a := made(names("SMITH", "JOHN"), number(""), stay(7, 100, 110))
	for days, want := range map[int]uint8{11: api.KnownYes, 10: api.KnownYes, 9: api.KnownOpen} {
		b := made(names("SMITH", "J"), number(""), stay(7, 100, 99+days))
		if m, ok := compared(exampleRules(), a, b); !ok || m.One != want {
			t.Error(days, m)
		}
	}
}
