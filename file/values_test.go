package file_test

import (
	"math"
	"reflect"
	"slices"
	"testing"

	"goodname/api"
	"goodname/file"
)

// roomy returns a list with more behind its last element.
func roomy[T any](l []T, behind ...T) []T {
	return slices.Concat(l, behind)[:len(l)]
}

// whole returns a copy of a list up to its capacity.
func whole[T any](l []T) []T { return slices.Clone(l[:cap(l)]) }

// R3: no argument is written to, nor what is behind a list's last element, and
// that does not count.
func TestArgumentsAreNotWrittenTo(t *testing.T) {
	l := roomy(row(30, 20, 10), moor(5, "777777777", 100), moor(30, "", 100), api.Record{})
	for i := range l {
		l[i].Names = roomy(l[i].Names, "BEHIND")
		l[i].Stays = roomy([]api.Stay{{Place: 3, From: 1, To: 2}}, api.Stay{Place: -1})
	}
	ops := roomy([]api.Op{undo(9, 4), split(4, 10, 20), merge(2, 10, 30), undo(11, 9)}, undo(12, 11), api.Op{})
	named := roomy([]int{30, 10, 20, 10}, 77, -1)
	records, orders, ids := whole(l), whole(ops), whole(named)
	for range 2 {
		file.Check(strict(), l, ops)
		if a, e := file.Active(ops); e != api.OK || !slices.Equal(a, []int{2, 4, 11}) {
			t.Error(a, e)
		}
		if f, e := file.Files(strict(), l, ops); e != api.OK || !sameFiles(f, [][]int{{10}, {20, 30}}) {
			t.Error(f, e)
		}
		if b, e := file.Blocked(strict(), l, ops); e != api.OK || !slices.Equal(b, []api.Link{byOp(10, 30, 2), byRules(10, 20)}) {
			t.Error(b, e)
		}
		if w, e := file.Why(strict(), l, ops, 30, 20); e != api.OK || !slices.Equal(w, []api.Link{byRules(20, 30)}) {
			t.Error(w, e)
		}
		if m, e := file.Mixed(strict(), l, ops, named); e != api.OK || !slices.Equal(m, [][2]int{{10, 20}, {10, 30}}) {
			t.Error(m, e)
		}
	}
	if !reflect.DeepEqual(records, whole(l)) || !slices.Equal(orders, whole(ops)) || !slices.Equal(ids, whole(named)) {
		t.Error(whole(l), whole(ops), whole(named))
	}
	for _, a := range l {
		if a.Names[:3][2] != "BEHIND" || a.Stays[:2][1] != (api.Stay{Place: -1}) {
			t.Error(a)
		}
	}
}

// R3: results share no memory, within their capacity too.
func TestResultsShareNoMemory(t *testing.T) {
	l, ops := row(1, 2, 3, 4, 5, 6), []api.Op{merge(1, 1, 3), merge(2, 1, 4)}
	named := []int{6, 1, 3}
	first, second := ask(t, story{strict(), l, ops}), ask(t, story{strict(), l, ops})
	want := [][]int{{1, 2}, {3, 4}, {5, 6}}
	for i, f := range first.files {
		if !slices.Equal(f, want[i]) {
			t.Error("another file was written to", i, f)
		}
		fill(f[:cap(f)], -1)
	}
	fill(first.active[:cap(first.active)], -1)
	fill(first.blocked[:cap(first.blocked)], api.Link{A: -1})
	fill(first.mixed[:cap(first.mixed)], [2]int{-1, -1})
	for _, way := range first.ways {
		fill(way[:cap(way)], api.Link{A: -1})
	}
	m, e := file.Mixed(strict(), l, ops, named)
	fill(m[:cap(m)], [2]int{-1, -1})
	if e != api.OK || !slices.Equal(named, []int{6, 1, 3}) {
		t.Error(named, e)
	}
	third := ask(t, story{strict(), l, ops})
	if !sameFiles(second.files, want) || !alike(second, third) || !slices.Equal(second.active, []int{1, 2}) {
		t.Error(second, third)
	}
}

// R3: no call remembers another one.
func TestNoCallRemembers(t *testing.T) {
	r := newRandom(12)
	s := story{strict(), row(1, 2, 3, 4), []api.Op{merge(3, 2, 3), split(4, 1, 4), undo(5, 4)}}
	want := ask(t, s)
	for range 40 {
		other := r.story()
		ask(t, other)
		file.Check(api.Rules{}, other.l, s.ops)
		file.Files(s.rules, s.l, badOps()[r.Intn(5)])
		if got := ask(t, s); !alike(got, want) || !slices.Equal(got.active, want.active) {
			t.Fatal(other, got, want)
		}
	}
}

// R4: a list that is nil is an empty one.
func TestNilAndEmpty(t *testing.T) {
	for _, l := range [][]api.Record{nil, {}} {
		for _, ops := range [][]api.Op{nil, {}} {
			a := ask(t, story{strict(), l, ops})
			if len(a.active)+len(a.files)+len(a.blocked)+len(a.mixed) != 0 {
				t.Error(a)
			}
			if b := ask(t, story{strict(), row(1, 2), ops}); !sameFiles(b.files, [][]int{{1, 2}}) {
				t.Error(b)
			}
			for _, named := range [][]int{nil, {}} {
				if m, e := file.Mixed(strict(), l, ops, named); e != api.OK || len(m) != 0 {
					t.Error(m, e)
				}
			}
		}
	}
}

// R2, R5 and R7: whatever the arguments are, each call ends, none panics, and
// beside an error is nothing.
func TestAnyArguments(t *testing.T) {
	r := newRandom(13)
	number := func() int {
		if r.Intn(3) > 0 {
			return r.Intn(5)
		}
		return pick(r, -1, api.MaxId, api.MaxId+1, math.MinInt, math.MaxInt, 1<<32+1, -1<<32)
	}
	valid := 0
	for range 20000 {
		l, ops := row(1, 2, 3)[:r.Intn(4)], []api.Op{}
		if len(l) > 0 && r.Intn(4) == 0 {
			l[0] = api.Record{Id: number(), Names: pick(r, nil, []string{"A"}, []string{"\xff"}), Suffix: uint8(r.Intn(256)), Born: api.Span{Lo: number(), Hi: number()}}
		}
		for range r.Intn(4) {
			ops = append(ops, api.Op{Id: number(), Kind: uint8(r.Intn(5)), A: number(), B: number()})
		}
		rules := strict()
		if r.Intn(10) == 0 {
			rules.Days = number()
		}
		e := file.Check(rules, l, ops)
		f, e1 := file.Files(rules, l, ops)
		b, e2 := file.Blocked(rules, l, ops)
		w, e3 := file.Why(rules, l, ops, number(), number())
		m, e4 := file.Mixed(rules, l, ops, []int{number(), number()})
		a, e5 := file.Active(ops)
		if e1 != e || e2 != e || e != api.OK && (e3 != e || e4 != e) || e == api.OK && (e3 != api.OK && e3 != api.ErrNone || e4 != api.OK && e4 != api.ErrNone || e5 != api.OK) {
			t.Fatal(rules, l, ops, e, e1, e2, e3, e4, e5)
		}
		if e != api.OK && len(f)+len(b) > 0 || e3 != api.OK && len(w) > 0 || e4 != api.OK && len(m) > 0 || e5 != api.OK && len(a) > 0 {
			t.Fatal(rules, l, ops, f, b, w, m, a)
		}
		if e == api.OK && len(ops) > 0 {
			valid++
		}
	}
	if valid < 200 {
		t.Error("too few are valid", valid)
	}
}
