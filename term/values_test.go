package term_test

import (
	"math"
	"slices"
	"testing"

	"goodname/account"
	"goodname/api"
	"goodname/term"
)

// saga is a story in which an account shows something of each kind, one is
// silent, and some facts are gone.
func saga() world {
	var w world
	for kind := uint8(api.RepOpened); kind <= api.RepClosed; kind++ {
		w.code.Laws = append(w.code.Laws, api.Law{Land: 1, Kind: kind, Base: 1 + kind%3, Keep: 9})
	}
	w.code.Stills = []api.Still{{Land: 1, Days: 3, Means: api.StillPaid}}
	w.homes = []api.Home{{Account: 1, Land: 1}, {Account: 2, Land: 1}, {Account: 3, Land: 2}}
	w.l = []api.Report{
		fact(api.RepOpened, 1, 2, 0, made(3), on(1)), fact(api.RepLimit, 2, 3, 30, made(3), on(1)), owed(3, 4, 40, made(4), on(1)), owed(4, 4, 41, made(5), on(1)), fact(api.RepPaid, 5, 5, 50, made(5), on(1)),
		fact(api.RepLate, 6, 5, 30, made(5), on(1)), fact(api.RepDefault, 7, 6, 70, made(6), on(1)), closed(8, 7, made(7), on(1)), closed(9, 8, made(8), on(1)), correct(10, 3, 4, 42, made(9), on(1)),
		owed(11, 4, 40, made(4), on(2)), fact(api.RepOpened, 12, 2, 0, made(3), on(2)), owed(13, 4, 40, made(4), on(3)), owed(14, 3, 40, made(4)), withdraw(15, 14, made(9)), owed(16, 5, 1, made(6), on(0)),
	}
	return w
}

// P4.1 to P4.4, R3: no argument is written to, nor what is behind a list's last
// element, and that does not count.
func TestArgumentsAreNotWrittenTo(t *testing.T) {
	w := saga()
	laws := append(slices.Clone(w.code.Laws), api.Law{Land: 0, Kind: api.RepOwed, Base: api.BaseMade, Keep: 500}, api.Law{Kind: 77})
	stills := append(slices.Clone(w.code.Stills), api.Still{Land: 0, Days: 1}, api.Still{Days: -1})
	homes := append(slices.Clone(w.homes), api.Home{Account: 0, Land: 1}, api.Home{Account: -1})
	l := append(mixedUp(newRandom(11), w.l), withdraw(17, 1, on(1)), owed(18, 6, 1, on(1)), api.Report{Kind: 77})
	roomy := world{api.Code{Laws: laws[:len(laws)-2], Stills: stills[:len(stills)-2]}, homes[:len(homes)-2], l[:len(l)-3]}
	laws2, stills2, homes2, l2 := slices.Clone(laws), slices.Clone(stills), slices.Clone(homes), slices.Clone(l)
	for day := range storyDays {
		want := saga().ask(t, day)
		for range 2 {
			if got := roomy.ask(t, day); term.Check(roomy.code, roomy.homes) != api.OK || !same(got, want) {
				t.Error(day, got, want)
			}
		}
	}
	if !slices.Equal(laws, laws2) || !slices.Equal(stills, stills2) || !slices.Equal(homes, homes2) || !slices.Equal(l, l2) {
		t.Error(laws, stills, homes, l)
	}
}

// fill writes to a list, within its capacity too.
func fill[T any](l []T, x T) {
	l = l[:cap(l)]
	for i := range l {
		l[i] = x
	}
}

// R3: results share no memory with arguments, nor with each other, nor do their
// lists.
func TestResultsShareNoMemory(t *testing.T) {
	w := saga()
	for day := range storyDays {
		first, want := w.ask(t, day), saga().ask(t, day)
		again := w.ask(t, day)
		for i := range first.views {
			v, s := &first.views[i], &first.views[i].State
			lists := [][]int{v.Shown, s.Opened.By, s.Limit.By, s.Owed.By, s.Late.By, s.Default.By, s.Closed.By}
			before := slices.Clone(lists)
			for j := range before {
				before[j] = slices.Clone(lists[j])
			}
			for j, l := range lists {
				if !same(lists[j:], before[j:]) {
					t.Error("another list was written to", day, i, lists)
				}
				fill(l, -1)
			}
			if !same(first.views[i+1:], want.views[i+1:]) {
				t.Error("another view was written to", day, i, first.views)
			}
		}
		if !same(first.gone, want.gone) {
			t.Error(day, first.gone)
		}
		fill(first.gone, -1)
		if !same(again, want) || !same(w, saga()) {
			t.Error("what was not told was written to", day, again, w)
		}
		if got := w.ask(t, day); !same(got, want) {
			t.Error(day, got, want)
		}
	}
}

// R3: no call remembers another one.
func TestNoCallRemembers(t *testing.T) {
	r := newRandom(12)
	want := saga().ask(t, 9)
	for range 40 {
		r.world().ask(t, r.Intn(storyDays))
		bad := saga()
		bad.code.Stills = append(slices.Clone(bad.code.Stills), api.Still{})
		bad.show(1, 9)
		bad.gone(9)
		bad.last(1, 9)
		if got := saga().ask(t, 9); !same(got, want) {
			t.Fatal(got, want)
		}
	}
}

// R4: a list that is nil is an empty one.
func TestNilAndEmpty(t *testing.T) {
	empty := world{api.Code{Laws: []api.Law{}, Stills: []api.Still{}}, []api.Home{}, []api.Report{}}
	for _, w := range []world{{}, empty} {
		var want answers
		for id := range want.lasts {
			want.lasts[id] = none
		}
		for i := range want.views {
			want.views[i] = nothing()
		}
		if got := w.ask(t, 9); !same(got, want) {
			t.Error(got, want)
		}
	}
}

// number is one from 1 to hi in most cases.
func (r random) number(hi int) int {
	if r.Intn(60) > 0 {
		return 1 + r.Intn(hi)
	}
	return pick(r, 0, -1, hi+1, api.MaxLand, api.MaxLand+1, api.MaxId, api.MaxId+1, api.MaxDay, api.MaxDay+1, math.MinInt, math.MaxInt, 1<<32+1, -1<<32)
}

// anything returns a world of any numbers.
func (r random) anything() world {
	var w world
	for range r.Intn(3) {
		w.code.Laws = append(w.code.Laws, api.Law{Land: r.number(2), Kind: uint8(r.number(2)), Base: uint8(r.number(api.BaseClosed)), Keep: r.number(5)})
	}
	for range r.Intn(3) {
		w.code.Stills = append(w.code.Stills, api.Still{Land: r.number(2), Days: r.number(3), Means: uint8(r.number(api.StillPaid))})
	}
	for range r.Intn(3) {
		w.homes = append(w.homes, api.Home{Account: r.number(2), Land: r.number(2)})
	}
	for id := range r.Intn(4) {
		w.l = append(w.l, api.Report{Id: id, Account: r.number(2), Made: r.number(3), About: r.number(3), Kind: uint8(r.number(2))})
	}
	return w
}

// errors are the errors that an account, a day and a fact lead to in a world.
func (w world) errors(a, day, id int) (check, last, show, gone api.Errno) {
	inRange := func(n, hi int) bool { return 0 <= n && n <= hi }
	check = term.Check(w.code, w.homes)
	e := check
	if e == api.OK {
		e = account.Check(w.l)
	}
	if e == api.OK && !inRange(day, api.MaxDay) {
		e = api.ErrArg
	}
	last, show, gone = e, e, e
	if e != api.OK {
		return check, last, show, gone
	}
	i := slices.IndexFunc(w.l, func(r api.Report) bool { return r.Id == id && r.Made <= day })
	if i < 0 {
		last = api.ErrNone
	} else if _, ok := w.lawOf(w.l[i]); !ok {
		last = api.ErrNone
	}
	if !inRange(a, api.MaxId) {
		show = api.ErrArg
	}
	return check, last, show, gone
}

// R2, R5 and R7: whatever the arguments are, each call ends, none panics, and
// beside an error is nothing.
func TestAnyArguments(t *testing.T) {
	r := newRandom(13)
	seen := map[api.Errno]int{}
	for range 30000 {
		w, a, day, id := r.anything(), r.number(2), r.number(6), r.number(3)
		last, e1 := w.last(id, day)
		v, e2 := w.show(a, day)
		gone, e3 := w.gone(day)
		_, f1, f2, f3 := w.errors(a, day, id)
		if e1 != f1 || e2 != f2 || e3 != f3 {
			t.Fatal(w, a, day, id, e1, e2, e3, f1, f2, f3)
		}
		if e1 != api.OK && last != 0 || e2 != api.OK && !same(v, api.View{}) || e3 != api.OK && len(gone) > 0 {
			t.Fatal(w, a, day, id, last, v, gone)
		}
		seen[e1]++
	}
	for _, e := range []api.Errno{api.OK, api.ErrArg, api.ErrNone, api.ErrReport, api.ErrCode, api.ErrHomes} {
		if seen[e] < 100 {
			t.Error("too few", e, seen)
		}
	}
}
