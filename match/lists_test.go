package match_test

import (
	"slices"
	"strings"
	"testing"

	"goodname/api"
	"goodname/match"
)

// many returns valid records with the Ids from 0 on.
func many(n int, changes ...change) []api.Record {
	var l []api.Record
	for i := range n {
		l = append(l, made(append(changes, id(i))...))
	}
	return l
}

// P1.3: pairs by their Ids, whatever the order of the records is.
func TestPairs(t *testing.T) {
	l := []api.Record{
		made(id(70), number("")),
		made(id(9), stays()),
		made(id(800), names("STONE", "CARLO"), number("")),
		made(id(0), born(9000, 9000)),
		made(id(api.MaxId)),
	}
	sure := [][2]int{{9, api.MaxId}, {70, api.MaxId}}
	open := [][2]int{{9, 70}, {9, 800}, {70, 800}, {800, api.MaxId}}
	for i := range 5 {
		rotated := append(slices.Clone(l[i:]), l[:i]...)
		s, o, e := match.Pairs(ordinary(), rotated)
		if e != api.OK || !slices.Equal(s, sure) || !slices.Equal(o, open) {
			t.Error(i, s, o, e)
		}
	}
}

// P1.3: lists that are empty, of one record, and as long as can be.
func TestPairsOfListsOfAllLengths(t *testing.T) {
	for n := range api.MaxRecords + 1 {
		s, o, e := match.Pairs(ordinary(), many(n))
		if e != api.OK || len(s) != n*(n-1)/2 || len(o) != 0 || !slices.Equal(s, toldPairs(ordinary(), many(n), api.KnownYes)) {
			t.Error(n, s, o, e)
		}
		s, o, e = match.Pairs(ordinary(), many(n, number(""), stays()))
		if e != api.OK || len(s) != 0 || len(o) != n*(n-1)/2 {
			t.Error(n, s, o, e)
		}
	}
	if s, o, e := match.Pairs(ordinary(), nil); e != api.OK || len(s)+len(o) != 0 {
		t.Error(s, o, e)
	}
}

// P1.3: all pairs are as the chapter tells them.
func TestPairsAsTold(t *testing.T) {
	r := newRandom(3)
	for range 300 {
		rules, l := r.rules(), r.records()
		s, o, e := match.Pairs(rules, l)
		if e != api.OK || !slices.Equal(s, toldPairs(rules, l, api.KnownYes)) || !slices.Equal(o, toldPairs(rules, l, api.KnownOpen)) {
			t.Fatal(rules, l, s, o, e)
		}
	}
}

// P1.3 and R1: errors, in their order.
func TestPairsErrors(t *testing.T) {
	bad, full := made(id(-1)), strings.Repeat("Q", 21)
	for i, x := range []struct {
		r    api.Rules
		l    []api.Record
		want api.Errno
	}{
		{api.Rules{}, nil, api.ErrRules},
		{api.Rules{}, many(25), api.ErrRules},
		{api.Rules{}, []api.Record{bad, bad}, api.ErrRules},
		{ordinary(), many(25), api.ErrMany},
		{ordinary(), make([]api.Record, 25), api.ErrMany},
		{ordinary(), append(many(24), made(id(3))), api.ErrMany},
		{ordinary(), []api.Record{bad}, api.ErrRecord},
		{ordinary(), []api.Record{bad, bad}, api.ErrRecord},
		{ordinary(), make([]api.Record, 24), api.ErrRecord},
		{ordinary(), append(many(23), made(id(3), names(full))), api.ErrRecord},
		{ordinary(), []api.Record{made(), made(), bad}, api.ErrRecord},
		{ordinary(), []api.Record{made(), made()}, api.ErrTwice},
		{ordinary(), []api.Record{made(), made(id(2)), made(names("Q"))}, api.ErrTwice},
		{ordinary(), append(many(23), made(id(0))), api.ErrTwice},
		{ordinary(), append(many(23), made(id(22))), api.ErrTwice},
	} {
		s, o, e := match.Pairs(x.r, x.l)
		if e != x.want || len(s)+len(o) != 0 {
			t.Error(i, s, o, e)
		}
		if x.r == (api.Rules{}) {
			continue
		}
		if h, e := match.Homes(x.l, 150); e != x.want || len(h) != 0 {
			t.Error(i, h, e)
		}
		if h, e := match.Homes(x.l, -1); e != api.ErrArg || len(h) != 0 {
			t.Error(i, h, e)
		}
	}
	for i, r := range badRules() {
		if s, o, e := match.Pairs(r, many(25)); e != api.ErrRules || len(s)+len(o) != 0 {
			t.Error(i, s, o, e)
		}
	}
	for i, c := range badChanges() {
		l := []api.Record{made(id(7)), made(c), made(id(7))}
		s, o, e := match.Pairs(ordinary(), l)
		h, f := match.Homes(l, 150)
		if e != api.ErrRecord || f != api.ErrRecord || len(s)+len(o)+len(h) != 0 {
			t.Error(i, s, o, e, h, f)
		}
	}
}

// P1.4: who was at one place, by places, then by Ids, each once.
func TestHomes(t *testing.T) {
	l := []api.Record{
		made(id(5), stays(api.Stay{Place: 80, From: 10, To: 20}, api.Stay{Place: 3, From: 20, To: 30})),
		made(id(900), stays(api.Stay{Place: 80, From: 15, To: 25}, api.Stay{Place: 80, From: 20, To: 40}, api.Stay{Place: 80, From: 1, To: 20})),
		made(id(0), stays(api.Stay{Place: 80, From: 20, To: 20}, api.Stay{Place: 0, From: 0, To: 0})),
		made(id(6), stays()),
		made(id(7), stays(api.Stay{Place: api.MaxPlace, From: 0, To: api.MaxDay})),
	}
	for i, x := range []struct {
		day  int
		want [][]int
	}{
		{0, [][]int{{0}, {7}}}, {1, [][]int{{900}, {7}}}, {9, [][]int{{900}, {7}}}, {10, [][]int{{5, 900}, {7}}}, {19, [][]int{{5, 900}, {7}}},
		{20, [][]int{{5}, {0, 5, 900}, {7}}}, {21, [][]int{{5}, {900}, {7}}}, {30, [][]int{{5}, {900}, {7}}}, {31, [][]int{{900}, {7}}}, {40, [][]int{{900}, {7}}}, {41, [][]int{{7}}}, {api.MaxDay, [][]int{{7}}},
	} {
		for k := range len(l) {
			rotated := append(slices.Clone(l[k:]), l[:k]...)
			if h, e := match.Homes(rotated, x.day); e != api.OK || !sameHomes(h, x.want) {
				t.Error(i, k, h, e)
			}
		}
	}
}

// P1.4: lists that are empty, where nobody is, and of as many as can be.
func TestHomesOfListsOfAllLengths(t *testing.T) {
	for _, l := range [][]api.Record{nil, {}, {made(stays())}, {made()}} {
		for _, day := range []int{0, 99, 300, api.MaxDay} {
			if h, e := match.Homes(l, day); e != api.OK || len(h) != 0 {
				t.Error(l, h, e)
			}
		}
	}
	l := many(api.MaxRecords)
	slices.Reverse(l)
	h, e := match.Homes(l, 150)
	if e != api.OK || len(h) != 1 || len(h[0]) != api.MaxRecords || !slices.IsSorted(h[0]) {
		t.Error(h, e)
	}
	for i := range l {
		l[i].Stays = nil
		for k := range api.MaxStays {
			l[i].Stays = append(l[i].Stays, api.Stay{Place: 1000*k + i, From: 7, To: 7})
		}
	}
	h, e = match.Homes(l, 7)
	if e != api.OK || len(h) != api.MaxRecords*api.MaxStays || !sameHomes(h, toldHomes(l, 7, 6000, 24)) {
		t.Error(h, e)
	}
}

// P1.4: all homes are as the chapter tells them.
func TestHomesAsTold(t *testing.T) {
	r := newRandom(4)
	for range 200 {
		l := r.records()
		for day := range 42 {
			if h, e := match.Homes(l, day); e != api.OK || !sameHomes(h, toldHomes(l, day, 4, 40)) {
				t.Fatal(l, day, h, e)
			}
		}
	}
}

// P1.4 and R1: the day comes first.
func TestHomesOnDaysThatAreNone(t *testing.T) {
	for _, day := range odd(0, api.MaxDay) {
		for _, l := range [][]api.Record{nil, many(2), many(25), make([]api.Record, 2), {made(), made()}} {
			if h, e := match.Homes(l, day); e != api.ErrArg || len(h) != 0 {
				t.Error(day, len(l), h, e)
			}
		}
	}
}
