package match_test

import (
	"math"
	"reflect"
	"slices"
	"strings"
	"testing"

	"goodname/api"
	"goodname/match"
)

// roomy returns a record whose lists have more room than elements, with
// something in it.
func roomy(n int) api.Record {
	a := made(id(n))
	a.Names = append(make([]string, 0, 8), "STONE", "CARLA", "BEHIND", "BEHIND")[:2]
	room := append(make([]api.Stay, 0, 9), a.Stays...)
	a.Stays = append(room, api.Stay{Place: 12, From: 100, To: 199}, api.Stay{Place: 99, From: 1, To: 2})[:2]
	return a
}

// whole returns copies of lists up to their capacities.
func whole(l []api.Record) []api.Record {
	out := slices.Clone(l[:cap(l)])
	for i, a := range out {
		out[i].Names = slices.Clone(a.Names[:cap(a.Names)])
		out[i].Stays = slices.Clone(a.Stays[:cap(a.Stays)])
	}
	return out
}

// R3: no argument is written to, nor what is behind a list's last element.
func TestArgumentsAreNotWrittenTo(t *testing.T) {
	l := []api.Record{roomy(30), roomy(10), roomy(20), roomy(-5), {}}[:3]
	before := whole(l)
	for range 2 {
		match.Check(ordinary(), l[0])
		match.Compare(ordinary(), l[0], l[1])
		if s, _, e := match.Pairs(ordinary(), l); e != api.OK || !slices.Equal(s, [][2]int{{10, 20}, {10, 30}, {20, 30}}) {
			t.Error(s, e)
		}
		if h, e := match.Homes(l, 150); e != api.OK || !sameHomes(h, [][]int{{10, 20, 30}}) {
			t.Error(h, e)
		}
		if h, e := match.Homes(l, 1); e != api.OK || len(h) != 0 {
			t.Error("a stay behind the last one counts", h, e)
		}
	}
	if after := whole(l); !reflect.DeepEqual(before, after) {
		t.Error(before, after)
	}
}

// R3: results share no memory with each other, within their capacity too.
func TestResultsShareNoMemory(t *testing.T) {
	l := []api.Record{made(id(3)), made(id(1)), made(id(2), number(""), born(3990, 4000)), made(id(4), stays(api.Stay{Place: 5, From: 150, To: 150}, api.Stay{Place: 6, From: 150, To: 150}))}
	sure, open, e := match.Pairs(ordinary(), l)
	again, later, f := match.Pairs(ordinary(), l)
	if e != api.OK || f != api.OK || len(sure) == 0 || len(open) == 0 {
		t.Fatal(sure, open, e, f)
	}
	fill(sure[:cap(sure)], [2]int{-1, -1})
	if !slices.Equal(open, later) || !slices.Equal(again, toldPairs(ordinary(), l, api.KnownYes)) {
		t.Error(open, later, again)
	}
	fill(open[:cap(open)], [2]int{-2, -2})
	if sure[0] != [2]int{-1, -1} || !slices.Equal(later, toldPairs(ordinary(), l, api.KnownOpen)) {
		t.Error(sure, later)
	}
	homes, e := match.Homes(l, 150)
	other, f := match.Homes(l, 150)
	if e != api.OK || f != api.OK || len(homes) != 3 {
		t.Fatal(homes, e, f)
	}
	for i, h := range homes {
		want := slices.Clone(h)
		if !slices.Equal(want, other[i]) {
			t.Error("another home was written to", i, h, other[i])
		}
		fill(h[:cap(h)], -1)
	}
	if !sameHomes(other, toldHomes(l, 150, 13, 5)) {
		t.Error(other)
	}
}

func fill[T any](l []T, x T) {
	for i := range l {
		l[i] = x
	}
}

// R3: no call remembers another one.
func TestNoCallRemembers(t *testing.T) {
	r := newRandom(10)
	rules, a, b := ordinary(), made(), made(names("STONE", "CARLO"))
	first, _ := match.Compare(rules, a, b)
	n, _ := match.Edits("SMITH", "SMYTHE")
	for range 200 {
		match.Compare(r.rules(), r.record(1), r.record(1))
		match.Compare(api.Rules{}, api.Record{}, a)
		match.Pairs(r.rules(), r.records())
		match.Homes(r.records(), r.Intn(40))
		match.Edits(r.word("AB", 0, 25), r.word("AB", 0, 25))
		m, e := match.Compare(rules, a, b)
		k, f := match.Edits("SMITH", "SMYTHE")
		if m != first || e != api.OK || k != n || f != api.OK {
			t.Fatal(m, e, k, f)
		}
	}
}

// R4: a list that is nil is an empty one.
func TestNilAndEmpty(t *testing.T) {
	for _, l := range [][]api.Stay{nil, {}} {
		a := made(stays(l...))
		a.Stays = l
		if m, ok := compared(ordinary(), a, made()); !ok || m != (api.Match{Names: same, Number: same, Born: same, Place: open, One: api.KnownYes}) {
			t.Error(l == nil, m)
		}
		if h, e := match.Homes([]api.Record{a}, 0); e != api.OK || len(h) != 0 {
			t.Error(h, e)
		}
	}
	for _, l := range [][]string{nil, {}} {
		a := made()
		a.Names = l
		if e := match.Check(ordinary(), a); e != api.ErrRecord {
			t.Error(l == nil, e)
		}
	}
}

// R5 and R7: whatever the arguments are, each call ends, and none panics.
func TestAnyArguments(t *testing.T) {
	r := newRandom(11)
	ints := []int{0, 1, 2, 5, 6, -1, api.MaxDay, api.MaxDay + 1, api.MaxId, math.MinInt, math.MaxInt, math.MinInt + 1, 1 << 32, -1 << 32}
	number := func() int { return ints[r.Intn(len(ints))] }
	texts := []string{"", "A", "STONE", "\xff\xfe", "é", "123456789", strings.Repeat("A", 21), strings.Repeat("9", 9), strings.Repeat("Z", 1000)}
	text := func() string { return texts[r.Intn(len(texts))] }
	record := func() api.Record {
		a := api.Record{Id: number(), Suffix: uint8(r.Intn(256)), Born: api.Span{Lo: number(), Hi: number()}, Number: text(), Twin: r.Intn(2) == 0}
		for range r.Intn(7) {
			a.Names = append(a.Names, text())
		}
		for range r.Intn(8) {
			a.Stays = append(a.Stays, api.Stay{Place: number(), From: number(), To: number()})
		}
		return a
	}
	for range 20000 {
		rules, a, b := api.Rules{Letters: number(), Digits: number(), Days: number(), Together: number()}, record(), record()
		e := match.Check(rules, a)
		if m, f := match.Compare(rules, a, b); f == api.OK && e != api.OK || f != api.OK && m != (api.Match{}) {
			t.Fatal(rules, a, b, m, e, f)
		}
		if s, o, f := match.Pairs(rules, []api.Record{a, b}); f == api.OK && e != api.OK || f != api.OK && len(s)+len(o) != 0 {
			t.Fatal(rules, a, b, s, o, f)
		}
		if h, f := match.Homes([]api.Record{a, b}, number()); f != api.OK && len(h) != 0 {
			t.Fatal(a, b, h, f)
		}
		if n, f := match.Edits(text(), text()); f != api.OK && n != 0 {
			t.Fatal(n, f)
		}
	}
}
