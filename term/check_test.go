package term_test

import (
	"slices"
	"testing"

	"goodname/account"
	"goodname/api"
	"goodname/term"
)

// errorOf calls all functions, which must agree on an error of their lists, and
// tell nothing beside it.
func errorOf(t *testing.T, w world) api.Errno {
	t.Helper()
	e := term.Check(w.code, w.homes)
	if e == api.OK {
		e = account.Check(w.l)
	}
	for _, n := range append(odd(0, api.MaxId), 0, 7) {
		last, e1 := w.last(n, n)
		v, e2 := w.show(n, n)
		gone, e3 := w.gone(n)
		if e != api.OK && (e1 != e || e2 != e || e3 != e) {
			t.Error("errors differ", w, n, e, e1, e2, e3)
		}
		if e1 != api.OK && last != 0 || e2 != api.OK && !same(v, api.View{}) || e3 != api.OK && len(gone) > 0 {
			t.Error("something is beside an error", w, n, last, v, gone)
		}
		if e == api.OK && n == 7 && (e1 == api.ErrArg || e2 != api.OK || e3 != api.OK) {
			t.Error("an error without one", w, e1, e2, e3)
		}
	}
	return e
}

// laws returns so many laws of different lands and kinds.
func laws(many int) []api.Law {
	var out []api.Law
	for i := range many {
		out = append(out, api.Law{Land: i / 7, Kind: uint8(1 + i%7), Base: api.BaseMade, Keep: 5})
	}
	return out
}

func stills(many int) []api.Still {
	var out []api.Still
	for land := range many {
		out = append(out, api.Still{Land: land, Days: 5, Means: api.StillPaid})
	}
	return out
}

func homes(many int) []api.Home {
	var out []api.Home
	for a := range many {
		out = append(out, api.Home{Account: a, Land: 5})
	}
	return out
}

// P4.1: codes and homes at the limits of what is valid.
func TestCheckOfWhatIsValid(t *testing.T) {
	for i, w := range []world{
		{},
		{api.Code{Laws: []api.Law{}, Stills: []api.Still{}}, []api.Home{}, []api.Report{}},
		{api.Code{Laws: laws(api.MaxLaws), Stills: stills(api.MaxStills)}, homes(api.MaxHomes), nil},
		{code: api.Code{Laws: []api.Law{{Land: 0, Kind: api.RepOpened, Base: api.BaseAbout, Keep: 0}, {Land: api.MaxLand, Kind: api.RepClosed, Base: api.BaseClosed, Keep: api.MaxDay}}}},
		{code: api.Code{Laws: []api.Law{{Land: 3, Kind: api.RepClosed, Base: api.BaseMade}, {Land: 4, Kind: api.RepOpened, Base: api.BaseMade}}}},
		{code: api.Code{Stills: []api.Still{{Land: 0, Days: 1, Means: api.StillNothing}, {Land: 1, Days: 9, Means: api.StillClosed}, {Land: api.MaxLand, Days: api.MaxDay, Means: api.StillPaid}}}},
		{homes: []api.Home{{Account: 0, Land: api.MaxLand}, {Account: 1, Land: 0}, {Account: api.MaxId, Land: 0}}},
	} {
		if e := errorOf(t, w); e != api.OK {
			t.Error(i, e)
		}
	}
}

// places calls a test with a list of things that are valid, and a thing put into
// each place of it.
func places[T any](good []T, x T, try func(l []T)) {
	for at := range len(good) + 1 {
		try(slices.Insert(slices.Clone(good), at, x))
	}
}

// P4.1: ErrCode unless all laws are valid, wherever the one is that is not.
func TestCheckOfBadLaws(t *testing.T) {
	bad := func(change func(w *api.Law, n int), l ...int) {
		for _, n := range l {
			x := api.Law{Land: 2, Kind: api.RepOwed, Base: api.BaseMade, Keep: 5}
			change(&x, n)
			// Two Kinds of the land 2 leave a place for each other one.
			for _, good := range [][]api.Law{nil, {{Land: 1, Kind: 7, Base: 1}, {Land: 2, Kind: 2, Base: 2}, {Land: 2, Kind: 6, Base: 3}, {Land: 3, Kind: 1, Base: 1}}} {
				places(good, x, func(l []api.Law) {
					if e := errorOf(t, world{code: api.Code{Laws: l}}); e != api.ErrCode {
						t.Error(l, e)
					}
				})
			}
		}
	}
	bad(func(w *api.Law, n int) { w.Land = n }, odd(0, api.MaxLand)...)
	bad(func(w *api.Law, n int) { w.Kind = uint8(n) }, 0, 8, 9, 10, 128, 255)
	bad(func(w *api.Law, n int) { w.Base = uint8(n) }, 0, 4, 5, 128, 255)
	bad(func(w *api.Law, n int) { w.Keep = n }, odd(0, api.MaxDay)...)
}

// P4.1: ErrCode unless all stills are valid.
func TestCheckOfBadStills(t *testing.T) {
	bad := func(change func(s *api.Still, n int), l ...int) {
		for _, n := range l {
			x := api.Still{Land: 2, Days: 5, Means: api.StillClosed}
			change(&x, n)
			for _, good := range [][]api.Still{nil, {{Land: 1, Days: 1}, {Land: 3, Days: 1}}} {
				places(good, x, func(l []api.Still) {
					if e := errorOf(t, world{code: api.Code{Stills: l}}); e != api.ErrCode {
						t.Error(l, e)
					}
				})
			}
		}
	}
	bad(func(s *api.Still, n int) { s.Land = n }, odd(0, api.MaxLand)...)
	bad(func(s *api.Still, n int) { s.Days = n }, odd(1, api.MaxDay)...)
	bad(func(s *api.Still, n int) { s.Means = uint8(n) }, 3, 4, 128, 255)
}

// P4.1: ErrHomes unless all homes are valid.
func TestCheckOfBadHomes(t *testing.T) {
	bad := func(change func(h *api.Home, n int), l ...int) {
		for _, n := range l {
			x := api.Home{Account: 20, Land: 5}
			change(&x, n)
			for _, good := range [][]api.Home{nil, {{Account: 10, Land: 7}, {Account: 30, Land: 2}}} {
				places(good, x, func(l []api.Home) {
					if e := errorOf(t, world{homes: l}); e != api.ErrHomes {
						t.Error(l, e)
					}
				})
			}
		}
	}
	bad(func(h *api.Home, n int) { h.Account = n }, odd(0, api.MaxId)...)
	bad(func(h *api.Home, n int) { h.Land = n }, odd(0, api.MaxLand)...)
}

// moved returns all lists that are another one with one element put behind those
// that follow it, and with one element twice.
func moved[T any](l []T) [][]T {
	var out [][]T
	for i := range l {
		out = append(out, slices.Insert(slices.Clone(l), i, l[i]))
		for j := i + 1; j < len(l); j++ {
			out = append(out, slices.Insert(slices.Delete(slices.Clone(l), i, i+1), j, l[i]))
		}
	}
	return out
}

// P4.1: lists are in order, and nothing is in one twice, whatever else it tells.
func TestCheckOfOrder(t *testing.T) {
	for i, l := range append(moved(laws(9)),
		[]api.Law{{Land: 1, Kind: 3, Base: 1, Keep: 2}, {Land: 1, Kind: 3, Base: 2, Keep: 3}},
		[]api.Law{{Land: 1, Kind: 3, Base: 1, Keep: 2}, {Land: 1, Kind: 3, Base: 1, Keep: 3}},
		[]api.Law{{Land: 2, Kind: 3, Base: 1}, {Land: 1, Kind: 4, Base: 1}},
		[]api.Law{{Land: 2, Kind: 3, Base: 1}, {Land: 2, Kind: 4, Base: 1}, {Land: 2, Kind: 3, Base: 1}},
	) {
		if e := errorOf(t, world{code: api.Code{Laws: l, Stills: stills(3)}}); e != api.ErrCode {
			t.Error(i, e)
		}
	}
	for i, l := range append(moved(stills(4)), []api.Still{{Land: 1, Days: 2, Means: 1}, {Land: 1, Days: 3, Means: 2}}) {
		if e := errorOf(t, world{code: api.Code{Laws: laws(3), Stills: l}}); e != api.ErrCode {
			t.Error(i, e)
		}
	}
	for i, l := range append(moved(homes(4)), []api.Home{{Account: 1, Land: 2}, {Account: 1, Land: 3}}) {
		if e := errorOf(t, world{homes: l}); e != api.ErrHomes {
			t.Error(i, e)
		}
	}
}

// P4.1: there are at most so many.
func TestCheckOfMany(t *testing.T) {
	for i, x := range []struct {
		w world
		e api.Errno
	}{
		{world{code: api.Code{Laws: laws(api.MaxLaws + 1)}}, api.ErrCode},
		{world{code: api.Code{Laws: laws(api.MaxLaws + 100)}}, api.ErrCode},
		{world{code: api.Code{Stills: stills(api.MaxStills + 1)}}, api.ErrCode},
		{world{code: api.Code{Stills: stills(100)}}, api.ErrCode},
		{world{homes: homes(api.MaxHomes + 1)}, api.ErrHomes},
		{world{homes: homes(1000)}, api.ErrHomes},
	} {
		if e := errorOf(t, x.w); e != x.e {
			t.Error(i, e)
		}
	}
}

// P4.1: ErrCode comes before ErrHomes, this before the errors of reports, and
// all of them before ErrArg and ErrNone (errorOf asks for days and accounts that
// are not valid, too).
func TestOrderOfErrors(t *testing.T) {
	badLaw, badStill, badHomes := []api.Law{{}}, []api.Still{{}}, []api.Home{{Account: -1}}
	many, bad, differ := make([]api.Report, api.MaxReports+1), []api.Report{{}}, []api.Report{owed(1, 2, 3), owed(1, 2, 4)}
	for i, x := range []struct {
		w world
		e api.Errno
	}{
		{world{api.Code{Laws: badLaw}, badHomes, many}, api.ErrCode},
		{world{api.Code{Stills: badStill}, badHomes, bad}, api.ErrCode},
		{world{api.Code{Laws: badLaw, Stills: badStill}, nil, differ}, api.ErrCode},
		{world{api.Code{Laws: laws(3), Stills: badStill}, homes(3), nil}, api.ErrCode},
		{world{api.Code{Laws: badLaw, Stills: stills(3)}, homes(3), nil}, api.ErrCode},
		{world{api.Code{Laws: laws(3)}, badHomes, many}, api.ErrHomes},
		{world{api.Code{}, badHomes, bad}, api.ErrHomes},
		{world{api.Code{}, badHomes, differ}, api.ErrHomes},
		{world{api.Code{}, homes(3), many}, api.ErrMany},
		{world{api.Code{}, homes(3), append(differ, bad...)}, api.ErrReport},
		{world{api.Code{}, homes(3), differ}, api.ErrDiffer},
	} {
		if e := errorOf(t, x.w); e != x.e {
			t.Error(i, e)
		}
	}
}

// P4.2 to P4.4: ErrArg unless accounts and days are in their ranges.
func TestArguments(t *testing.T) {
	for _, w := range []world{{}, exampleWorld()} {
		for _, n := range odd(0, api.MaxDay) {
			last, e1 := w.last(1, n)
			_, e2 := w.last(-1, n)
			v, e3 := w.show(5, n)
			_, e4 := w.show(0, n)
			gone, e5 := w.gone(n)
			if !slices.Equal([]api.Errno{e1, e2, e3, e4, e5}, slices.Repeat([]api.Errno{api.ErrArg}, 5)) {
				t.Error(n, e1, e2, e3, e4, e5)
			}
			if last != 0 || !same(v, api.View{}) || len(gone) > 0 {
				t.Error(n, last, v, gone)
			}
		}
		for _, n := range odd(0, api.MaxId) {
			if v, e := w.show(n, 50); e != api.ErrArg || !same(v, api.View{}) {
				t.Error(n, v, e)
			}
			if last, e := w.last(n, 50); e != api.ErrNone || last != 0 {
				t.Error(n, last, e)
			}
		}
		for _, day := range []int{0, api.MaxDay} {
			_, e1 := w.show(0, day)
			_, e2 := w.show(api.MaxId, day)
			_, e3 := w.gone(day)
			_, e4 := w.last(77, day)
			if e1 != api.OK || e2 != api.OK || e3 != api.OK || e4 != api.ErrNone {
				t.Error(day, e1, e2, e3, e4)
			}
		}
	}
}
