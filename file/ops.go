package file

import (
	"cmp"
	"slices"

	"goodname/api"
)

// said is what ops say, all in all.
type said struct {
	active []int
	undone map[int]bool
	merges []api.Link
	splits [][2]int
}

// kind is a kind of ops: which ops of a list are valid ones of it, and how it
// is done.
type kind struct {
	kind  uint8
	valid func(op api.Op, ops []api.Op) bool
	do    func(s *said, op api.Op)
}

func kinds() []kind {
	return []kind{
		{api.OpMerge, ofTwoRecords, merge},
		{api.OpSplit, ofTwoRecords, split},
		{api.OpUndo, ofEarlierOp, undo},
	}
}

func kindOf(op api.Op) (kind, bool) {
	for _, k := range kinds() {
		if k.kind == op.Kind {
			return k, true
		}
	}
	return kind{}, false
}

func ofTwoRecords(op api.Op, ops []api.Op) bool {
	return within(0, api.MaxId, op.A, op.B) && op.A < op.B
}

func ofEarlierOp(op api.Op, ops []api.Op) bool {
	named := func(other api.Op) bool { return other.Id == op.A }
	return op.A < op.Id && op.B == 0 && slices.ContainsFunc(ops, named)
}

func merge(s *said, op api.Op) {
	s.merges = append(s.merges, api.Link{A: op.A, B: op.B, Op: op.Id})
}

func split(s *said, op api.Op) { s.splits = append(s.splits, [2]int{op.A, op.B}) }

func undo(s *said, op api.Op) { s.undone[op.A] = true }

func opsValid(ops []api.Op) bool {
	if len(ops) > api.MaxOps {
		return false
	}
	seen := map[int]bool{}
	for _, op := range ops {
		k, ok := kindOf(op)
		if !ok || !within(0, api.MaxId, op.Id) || seen[op.Id] || !k.valid(op, ops) {
			return false
		}
		seen[op.Id] = true
	}
	return true
}

// hear returns what valid ops say. The last one is done first: an undo names an
// op before it, so that whether an op is active is known when it comes.
func hear(ops []api.Op) said {
	s := said{undone: map[int]bool{}}
	lastFirst := func(a, b api.Op) int { return cmp.Compare(b.Id, a.Id) }
	for _, op := range slices.SortedFunc(slices.Values(ops), lastFirst) {
		if k, ok := kindOf(op); ok && !s.undone[op.Id] {
			s.active = append(s.active, op.Id)
			k.do(&s, op)
		}
	}
	slices.Reverse(s.active)
	slices.Reverse(s.merges)
	return s
}

// within tells whether all of some numbers are in a span.
func within(lo, hi int, numbers ...int) bool {
	for _, n := range numbers {
		if n < lo || n > hi {
			return false
		}
	}
	return true
}
