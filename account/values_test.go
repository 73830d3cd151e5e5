package account_test

import (
	"math"
	"slices"
	"testing"

	"goodname/account"
	"goodname/api"
)

// story has facts that stand, are corrected, withdrawn, and clash.
func story() []api.Report {
	return []api.Report{
		opened(1, 2, on(1)), opened(2, 3, on(1), by(71)), limit(3, 2, 9, on(1)), limit(4, 2, 9, on(1)), owed(5, 3, 8, on(1)), owed(6, 3, 7, on(1), by(71)),
		paid(7, 4, 5, on(1)), paid(8, 4, 6, on(1), by(71)), late(9, 3, 30, on(1)), late(10, 3, 31, on(1)), defaulted(11, 4, 1, on(1)), defaulted(12, 4, 2, on(1)), closed(13, 5, on(1)), closed(14, 6, on(1)),
		correct(15, 3, 2, 10, on(1)), withdraw(16, 5, on(1)), withdraw(17, 16, on(1)), correct(18, 4, 1, 1, on(1), made(9)),
	}
}

// P3.1 to P3.4, R3: no argument is written to, nor what is behind a list's last
// element, and that does not count.
func TestArgumentsAreNotWrittenTo(t *testing.T) {
	l := mixedUp(newRandom(13), story())
	room := append(slices.Clone(l), withdraw(20, 1, on(1)), owed(21, 6, 1, on(1)), api.Report{Kind: 77}, api.Report{})
	before := slices.Clone(room)
	want := ask(t, story(), storyDays+10)
	for range 2 {
		if got := ask(t, room[:len(l)], storyDays+10); !same(got, want) {
			t.Error(got, want)
		}
	}
	if !slices.Equal(room, before) {
		t.Error(room)
	}
}

func fill[T any](l []T, x T) {
	l = l[:cap(l)]
	for i := range l {
		l[i] = x
	}
}

// R3: results share no memory with arguments, nor with each other, within their
// capacity too.
func TestResultsShareNoMemory(t *testing.T) {
	l := story()
	first, want := ask(t, l, 10), ask(t, story(), 10)
	if len(first.clashes[1]) < 5 {
		t.Fatal(first.clashes[1])
	}
	for i := range first.clashes[1] {
		if !same(first.clashes[1][i:], want.clashes[1][i:]) {
			t.Error("another list was written to", i, first.clashes[1])
		}
		fill(first.clashes[1][i].By, -1)
	}
	fill(first.clashes[1], api.Clash{})
	for day := range storyDays {
		if !same(first.states[1][day:], want.states[1][day:]) {
			t.Error("another state was written to", day, first.states[1])
		}
		fillState(t, first.states[1][day], want.states[1][day])
	}
	if !same(first.standing, want.standing) {
		t.Error(first.standing)
	}
	fill(first.standing, api.Report{Id: -1})
	if !slices.Equal(l, story()) {
		t.Error("the argument was written to", l)
	}
	if got := ask(t, l, 10); !same(got, want) {
		t.Error(got, want)
	}
}

// fillState writes to all lists of a state, and looks at those that are left.
func fillState(t *testing.T, s, want api.State) {
	t.Helper()
	lists := [][]int{s.Opened.By, s.Limit.By, s.Owed.By, s.Late.By, s.Default.By, s.Closed.By}
	wants := [][]int{want.Opened.By, want.Limit.By, want.Owed.By, want.Late.By, want.Default.By, want.Closed.By}
	for i, l := range lists {
		if !same(lists[i:], wants[i:]) {
			t.Error("another list was written to", i, lists)
		}
		fill(l, -1)
	}
}

// R3: no call remembers another one.
func TestNoCallRemembers(t *testing.T) {
	r := newRandom(14)
	want := ask(t, story(), 10)
	for range 40 {
		ask(t, r.reports(), r.Intn(storyDays))
		account.Check([]api.Report{{}})
		account.State(append(story(), api.Report{}), 1, 5, 10)
		account.Fate(append(story(), opened(1, 3)), 1, 10)
		if got := ask(t, story(), 10); !same(got, want) {
			t.Fatal(got, want)
		}
	}
}

// R4: a list that is nil is an empty one.
func TestNilAndEmpty(t *testing.T) {
	for _, l := range [][]api.Report{nil, {}} {
		a := ask(t, l, 10)
		want := answers{}
		for id := range want.fates {
			want.fates[id] = notKnown
		}
		if !same(a, want) {
			t.Error(a)
		}
	}
}

// R2, R5 and R7: whatever the arguments are, each call ends, none panics, and
// beside an error is nothing.
func TestAnyArguments(t *testing.T) {
	r := newRandom(15)
	number := func() int {
		if r.Intn(12) > 0 {
			return r.Intn(3)
		}
		return pick(r, -1, api.MaxId, api.MaxId+1, api.MaxDay, api.MaxDay+1, api.MaxMoney, api.MaxMoney+1, math.MinInt, math.MaxInt, 1<<32+1, -1<<32)
	}
	var seen [2]int
	for range 30000 {
		var l []api.Report
		for range r.Intn(4) {
			x := api.Report{Id: number(), Source: number(), Account: number(), Made: number(), About: number(), Kind: uint8(1 + r.Intn(7))}
			if r.Intn(4) == 0 {
				x.Kind, x.Cents, x.Of = uint8(r.Intn(11)), number(), number()
			}
			l = append(l, x)
		}
		if r.Intn(2) == 0 {
			for i := range l {
				l[i].Id = i
			}
		}
		a, day, known, id := number(), number(), number(), number()
		e := account.Check(l)
		s, e1 := account.Standing(l, known)
		f, by, e2 := account.Fate(l, id, known)
		st, e3 := account.State(l, a, day, known)
		c, e4 := account.Clashes(l, a, known)
		inRange := func(n, hi int) bool { return 0 <= n && n <= hi }
		want := [4]api.Errno{e, e, e, e}
		if e == api.OK {
			want = [4]api.Errno{}
			if !inRange(known, api.MaxDay) {
				want = [4]api.Errno{api.ErrArg, api.ErrArg, api.ErrArg, api.ErrArg}
			} else if !slices.ContainsFunc(l, func(r api.Report) bool { return r.Id == id && r.Made <= known }) {
				want[1] = api.ErrNone
			}
			if !inRange(a, api.MaxId) {
				want[2], want[3] = api.ErrArg, api.ErrArg
			}
			if !inRange(day, api.MaxDay) {
				want[2] = api.ErrArg
			}
			seen[0]++
		} else {
			seen[1]++
		}
		if got := [4]api.Errno{e1, e2, e3, e4}; got != want {
			t.Fatal(l, a, day, known, id, got, want)
		}
		if e1 != api.OK && len(s) > 0 || e2 != api.OK && (f != 0 || by != 0) || e3 != api.OK && !same(st, api.State{}) || e4 != api.OK && len(c) > 0 {
			t.Fatal(l, a, day, known, id, s, f, by, st, c)
		}
	}
	if min(seen[0], seen[1]) < 1000 {
		t.Error("too few are valid, or are not", seen)
	}
}
