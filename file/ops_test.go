package file_test

import (
	"math"
	"slices"
	"testing"

	"goodname/api"
	"goodname/file"
)

// odd are numbers that no Id is, of whatever size: some are one in fewer bits.
func odd() []int {
	return []int{-1, api.MaxId + 1, math.MinInt, math.MaxInt, math.MinInt + 1, 1 << 32, 1<<32 + 5, -(1 << 32) + 5, -1 << 31}
}

// manyOps are so many merges, with the Ids from 0 on.
func manyOps(n int) []api.Op {
	var ops []api.Op
	for i := range n {
		ops = append(ops, merge(i, i, i+1))
	}
	return ops
}

// badOps are not valid, each list for one reason alone.
func badOps() [][]api.Op {
	first := merge(5, 1, 2)
	out := [][]api.Op{
		manyOps(api.MaxOps + 1), slices.Repeat([]api.Op{first}, api.MaxOps+1), make([]api.Op, 1), make([]api.Op, 100000),
		{first, first}, {first, split(5, 3, 4)}, {first, merge(6, 1, 2), split(7, 1, 2), merge(5, 3, 4)},
		{merge(5, 2, 1)}, {split(5, 2, 1)}, {merge(5, 3, 3)}, {split(5, 0, 0)}, {first, merge(6, api.MaxId, 0)},
		{undo(5, 5)}, {undo(5, 4)}, {undo(0, 0)}, {undo(0, 5), first}, {undo(4, 5), first}, {first, undo(6, 0)}, {first, undo(6, 7), undo(7, 5)},
		{first, {Id: 6, Kind: api.OpUndo, A: 5, B: 1}}, {first, {Id: 6, Kind: api.OpUndo, A: 5, B: -1}}, {first, {Id: 6, Kind: api.OpUndo, A: 5, B: 5}}, {first, {Id: 6, Kind: api.OpUndo, A: 5, B: 6}},
		append(manyOps(api.MaxOps-1), merge(0, 1, 2)), append(manyOps(api.MaxOps-1), undo(99, api.MaxOps)),
		{undo(3, 3), merge(3, 1, 2)},
	}
	for _, k := range []uint8{0, 4, 5, 128, 255} {
		out = append(out, []api.Op{{Id: 5, Kind: k, A: 1, B: 2}}, []api.Op{first, {Id: 6, Kind: k, A: 5}}, []api.Op{first, {Id: 6, Kind: k, A: 1, B: 2}})
	}
	for _, n := range odd() {
		out = append(out,
			[]api.Op{merge(n, 1, 2)}, []api.Op{split(n, 1, 2)}, []api.Op{first, undo(n, 5)},
			[]api.Op{merge(5, n, 2)}, []api.Op{merge(5, 1, n)}, []api.Op{split(5, n, 2)}, []api.Op{split(5, 1, n)},
			[]api.Op{merge(5, n, n)}, []api.Op{first, merge(6, n, api.MaxId)}, []api.Op{first, split(6, 0, n)},
			[]api.Op{first, undo(6, n)}, []api.Op{first, {Id: 6, Kind: api.OpUndo, A: 5, B: n}}, []api.Op{merge(n, 1, 2), undo(6, n)},
		)
	}
	return out
}

// P2.1: which ops are active, in any order of the list.
func TestActive(t *testing.T) {
	for i, x := range []struct {
		ops  []api.Op
		want []int
	}{
		{nil, nil},
		{[]api.Op{merge(8, 1, 2)}, []int{8}},
		{[]api.Op{merge(8, 1, 2), split(3, 1, 2), merge(90, 4, 5)}, []int{3, 8, 90}},
		{[]api.Op{merge(0, 0, api.MaxId), split(api.MaxId, 0, api.MaxId)}, []int{0, api.MaxId}},
		{[]api.Op{merge(0, 0, 1), undo(1, 0)}, []int{1}},
		{[]api.Op{merge(0, 0, 1), undo(api.MaxId, 0)}, []int{api.MaxId}},
		// Undone, and its undo undone, and so on.
		{[]api.Op{split(2, 1, 2), undo(4, 2), undo(6, 4)}, []int{2, 6}},
		{[]api.Op{split(2, 1, 2), undo(4, 2), undo(6, 4), undo(8, 6)}, []int{4, 8}},
		{[]api.Op{split(2, 1, 2), undo(4, 2), undo(6, 4), undo(8, 6), undo(10, 8)}, []int{2, 6, 10}},
		// Two undos of one op: to undo one of them is not enough.
		{[]api.Op{merge(2, 1, 2), undo(4, 2), undo(5, 2)}, []int{4, 5}},
		{[]api.Op{merge(2, 1, 2), undo(4, 2), undo(5, 2), undo(6, 4)}, []int{5, 6}},
		{[]api.Op{merge(2, 1, 2), undo(4, 2), undo(5, 2), undo(6, 4), undo(7, 5)}, []int{2, 6, 7}},
		{[]api.Op{merge(2, 1, 2), undo(4, 2), undo(5, 4), undo(6, 4), undo(7, 5)}, []int{2, 6, 7}},
		// An undo stands for its op alone, not for one that says the same.
		{[]api.Op{merge(2, 1, 2), merge(3, 1, 2), undo(4, 2)}, []int{3, 4}},
	} {
		for k := range max(1, len(x.ops)) {
			ops := append(slices.Clone(x.ops[k:]), x.ops[:k]...)
			slices.Reverse(ops)
			if l, e := file.Active(ops); e != api.OK || !slices.Equal(l, x.want) {
				t.Error(i, k, l, e)
			}
		}
	}
	full := manyOps(api.MaxOps)
	if l, e := file.Active(full); e != api.OK || len(l) != api.MaxOps || l[api.MaxOps-1] != api.MaxOps-1 || !slices.IsSorted(l) {
		t.Error(l, e)
	}
	// A chain of as many undos as can be.
	chain := manyOps(1)
	for i := range api.MaxOps - 1 {
		chain = append(chain, undo(i+1, i))
	}
	l, e := file.Active(chain)
	if e != api.OK || len(l) != api.MaxOps/2 || l[0] != 1 || l[len(l)-1] != api.MaxOps-1 {
		t.Error(l, e)
	}
}

// P2.1: what is active is as the chapter defines it.
func TestActiveAsTold(t *testing.T) {
	r := newRandom(1)
	for range 300 {
		s := story{ops: r.ops(api.MaxOps)}
		if l, e := file.Active(s.ops); e != api.OK || !slices.Equal(l, s.activeIds()) {
			t.Fatal(s.ops, l, e)
		}
	}
}

// P2.1: one thing that is wrong in ops is enough, for each function.
func TestOpsThatAreNotValid(t *testing.T) {
	for i, ops := range badOps() {
		if l, e := file.Active(ops); e != api.ErrOps || len(l) != 0 {
			t.Error(i, l, e)
		}
		if e, empty := refused(strict(), row(1, 2, 3), ops); e != api.ErrOps || !empty {
			t.Error(i, e, empty)
		}
	}
}

// refused returns the error of all functions with records, if it is one error,
// and whether nothing is beside it. What Why and Mixed are asked is wrong, too.
func refused(r api.Rules, l []api.Record, ops []api.Op) (e api.Errno, empty bool) {
	f, e1 := file.Files(r, l, ops)
	b, e2 := file.Blocked(r, l, ops)
	w, e3 := file.Why(r, l, ops, 1, 2)
	x, e4 := file.Why(r, l, ops, -1, 77)
	m, e5 := file.Mixed(r, l, ops, []int{1, 2, 3})
	n, e6 := file.Mixed(r, l, ops, []int{-1})
	e = file.Check(r, l, ops)
	for _, other := range []api.Errno{e1, e2, e3, e4, e5, e6} {
		if other != e {
			return -1, false
		}
	}
	return e, len(f)+len(b)+len(w)+len(x)+len(m)+len(n) == 0
}

// P2.1 and R1: the errors of match.Pairs, in their order, and then those of ops.
func TestErrorsInTheirOrder(t *testing.T) {
	bad := moor(3, "1", 100)
	none := make([]api.Op, 1)
	for i, x := range []struct {
		r    api.Rules
		l    []api.Record
		ops  []api.Op
		want api.Errno
	}{
		{api.Rules{}, nil, nil, api.ErrRules},
		{api.Rules{}, slices.Repeat([]api.Record{bad}, 25), none, api.ErrRules},
		{api.Rules{Together: 1, Days: -1}, row(1, 2, 3), none, api.ErrRules},
		{strict(), slices.Repeat([]api.Record{bad}, 25), none, api.ErrMany},
		{strict(), row(upTo(25)...), nil, api.ErrMany},
		{strict(), []api.Record{bad, bad}, none, api.ErrRecord},
		{strict(), append(row(1, 2), bad), nil, api.ErrRecord},
		{strict(), []api.Record{{}}, manyOps(5), api.ErrRecord},
		{strict(), row(4, 5, 4), none, api.ErrTwice},
		{strict(), row(4, 5, 4), manyOps(41), api.ErrTwice},
		{strict(), row(4, 4), nil, api.ErrTwice},
		{strict(), nil, none, api.ErrOps},
		{strict(), row(1, 2, 3), manyOps(41), api.ErrOps},
	} {
		if e, empty := refused(x.r, x.l, x.ops); e != x.want || !empty {
			t.Error(i, e, empty)
		}
	}
}

// P2.1: what is valid, at its limits, is no error.
func TestCheckOfWhatIsValid(t *testing.T) {
	for i, ops := range [][]api.Op{
		nil, {}, manyOps(1), manyOps(api.MaxOps), {merge(0, 0, 1)}, {split(api.MaxId, 0, api.MaxId)},
		{merge(5, api.MaxId-1, api.MaxId), split(6, api.MaxId-1, api.MaxId)},
		{undo(1, 0), split(0, 0, 1)}, {undo(api.MaxId, api.MaxId-1), undo(api.MaxId-1, 0), merge(0, 8, 9)},
		// Records that are in no list, and the same thing said twice.
		{merge(1, 500, 600), merge(2, 500, 600), split(3, 500, 600), split(4, 1, 600)},
	} {
		for _, l := range [][]api.Record{nil, {}, row(0), row(1, 2, 3), row(upTo(24)...)} {
			if e := file.Check(strict(), l, ops); e != api.OK {
				t.Error(i, len(l), e)
			}
		}
	}
}
