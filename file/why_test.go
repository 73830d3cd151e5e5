package file_test

import (
	"math"
	"slices"
	"testing"

	"goodname/api"
	"goodname/file"
)

// P2.4: the way from one record to another one, link by link.
func TestWhy(t *testing.T) {
	chain := []api.Op{merge(9, 1, 4), merge(8, 2, 4), merge(7, 2, 3)}
	there := []api.Link{byOp(1, 4, 9), byOp(2, 4, 8), byOp(2, 3, 7)}
	back := []api.Link{byOp(2, 3, 7), byOp(2, 4, 8), byOp(1, 4, 9)}
	same := []api.Record{moor(2, "777777777", 100), moor(5, "777777777", 100), moor(3, "777777777", 100)}
	for i, x := range []struct {
		l    []api.Record
		ops  []api.Op
		a, b int
		want []api.Link
	}{
		{row(1, 2), nil, 1, 2, []api.Link{byRules(1, 2)}},
		// A link is as it is in the list, also from the greater Id.
		{row(1, 2), nil, 2, 1, []api.Link{byRules(1, 2)}},
		{row(1, 2), nil, 1, 1, nil},
		{row(0, api.MaxId), nil, api.MaxId, 0, []api.Link{byRules(0, api.MaxId)}},
		{strangers(3), nil, 3, 3, nil},
		{strangers(1, 2, 3, 4), chain, 1, 3, there},
		{strangers(1, 2, 3, 4), chain, 3, 1, back},
		{strangers(1, 2, 3, 4), chain, 4, 3, there[1:]},
		{strangers(1, 2, 3, 4), chain, 3, 4, back[:2]},
		{strangers(1, 2, 3, 4), chain, 2, 2, nil},
		// Of a ring the last link was not followed, though it is shorter.
		{strangers(1, 2, 3, 4), append(chain[:3:3], merge(10, 1, 3)), 1, 3, there},
		{strangers(1, 2, 3, 4), append(chain[:3:3], merge(2, 1, 3)), 1, 3, []api.Link{byOp(1, 3, 2)}},
		{strangers(1, 2, 3, 4), append(chain[:3:3], merge(2, 1, 3)), 1, 4, []api.Link{byOp(1, 3, 2), byOp(2, 3, 7), byOp(2, 4, 8)}},
		// Of two merges of the same two records the first one was followed.
		{strangers(1, 2), []api.Op{merge(6, 1, 2), merge(5, 1, 2)}, 1, 2, []api.Link{byOp(1, 2, 5)}},
		{row(1, 2), []api.Op{merge(5, 1, 2)}, 2, 1, []api.Link{byOp(1, 2, 5)}},
		{strangers(1, 2), []api.Op{merge(6, 1, 2), merge(5, 1, 2), undo(7, 5)}, 1, 2, []api.Link{byOp(1, 2, 6)}},
		// By rules all came to the first one.
		{same, nil, 3, 5, []api.Link{byRules(2, 3), byRules(2, 5)}},
		{same, nil, 5, 2, []api.Link{byRules(2, 5)}},
		{same, []api.Op{merge(40, 3, 5)}, 2, 5, []api.Link{byRules(2, 3), byOp(3, 5, 40)}},
		{same, []api.Op{merge(40, 3, 5), undo(41, 40)}, 2, 5, []api.Link{byRules(2, 5)}},
	} {
		for range 2 {
			if way, e := file.Why(strict(), x.l, x.ops, x.a, x.b); e != api.OK || !slices.Equal(way, x.want) {
				t.Error(i, way, e)
			}
			slices.Reverse(x.l)
			slices.Reverse(x.ops)
		}
	}
}

// P2.4: no records, and records of other files.
func TestWhyNot(t *testing.T) {
	l := row(1, 2, 3)
	for i, x := range []struct {
		l    []api.Record
		ops  []api.Op
		a, b int
	}{
		{nil, nil, 0, 0}, {nil, nil, 1, 2},
		{l, nil, 1, 3}, {l, nil, 3, 2}, {l, nil, 1, 4}, {l, nil, 4, 1}, {l, nil, 4, 4}, {l, nil, 0, 0}, {l, nil, 4, 5},
		{l, []api.Op{split(1, 1, 2)}, 1, 2},
		{l, []api.Op{merge(1, 1, 3)}, 1, 3},
		{l, []api.Op{merge(1, 3, 4), merge(2, 1, 4)}, 3, 4},
		{l, []api.Op{merge(1, 3, 4), merge(2, 1, 4)}, 4, 4},
		{strangers(1, 2), nil, 1, 2},
		{strangers(1, 2), []api.Op{merge(1, 1, 2), undo(2, 1)}, 1, 2},
	} {
		if way, e := file.Why(strict(), x.l, x.ops, x.a, x.b); e != api.ErrNone || len(way) != 0 {
			t.Error(i, way, e)
		}
	}
	for _, n := range append(odd(), math.MaxInt-1, api.ByRules) {
		for _, x := range [][2]int{{n, 1}, {1, n}, {n, n}, {n, -n}} {
			if way, e := file.Why(strict(), l, nil, x[0], x[1]); e != api.ErrNone || len(way) != 0 {
				t.Error(x, way, e)
			}
		}
	}
}

// P2.4: the longest way there can be, and the widest file.
func TestWhyOfManyRecords(t *testing.T) {
	l := strangers(upTo(api.MaxRecords)...)
	ops := manyOps(api.MaxOps) // of 0 and 1, 1 and 2, and so on
	way, e := file.Why(strict(), l, ops, api.MaxRecords, 1)
	if e != api.OK || len(way) != api.MaxRecords-1 {
		t.Fatal(way, e)
	}
	for i, k := range way {
		if n := api.MaxRecords - 1 - i; k != byOp(n, n+1, n) {
			t.Error(i, k)
		}
	}
	for i := range l {
		l[i].Number = "777777777"
	}
	for _, a := range upTo(api.MaxRecords)[1:] {
		for _, b := range upTo(api.MaxRecords)[1:] {
			way, e := file.Why(strict(), l, nil, a, b)
			if e != api.OK || a != b && !slices.Equal(way, []api.Link{byRules(1, a), byRules(1, b)}) || a == b && len(way) != 0 {
				t.Error(a, b, way, e)
			}
		}
	}
}

// P2.4: all ways are as the chapter defines them.
func TestWhyAsTold(t *testing.T) {
	r := newRandom(4)
	found := [5]int{}
	for range 300 {
		s := r.story()
		want := s.file()
		for pair, way := range ask(t, s).ways {
			told, ok := want.way(pair[0], pair[1])
			if !ok || !slices.Equal(way, told) {
				t.Fatal(s, pair, way, told)
			}
			found[min(len(way), 4)]++
		}
	}
	for i, n := range found {
		if n < 50 {
			t.Error("too few ways of a length", i, n)
		}
	}
}
