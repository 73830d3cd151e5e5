package inquiry_test

import (
	"slices"
	"testing"

	"goodname/api"
	"goodname/inquiry"
)

// days tells on which of the first days something is, by signals in any order.
func days(t *testing.T, l []api.Signal, is func(s state) bool) []int {
	t.Helper()
	var out []int
	for day := range 16 {
		w := world{g: api.Gate{Signals: sorted(l...)}, file: 5, day: day}
		s := w.state()
		if s.e != api.OK {
			t.Fatal(l, s)
		}
		if is(s) {
			out = append(out, day)
		}
	}
	return out
}

// span is all days from lo to hi.
func span(lo, hi int) []int {
	var out []int
	for day := lo; day <= hi; day++ {
		out = append(out, day)
	}
	return out
}

// P9.2: on which days a file is frozen.
func TestFrozen(t *testing.T) {
	for i, x := range []struct {
		l    []api.Signal
		want []int
	}{
		{nil, nil},
		{[]api.Signal{freeze(1, 1, 0)}, span(0, 15)},
		{[]api.Signal{freeze(1, 1, 3)}, span(3, 15)},
		{[]api.Signal{freeze(1, 1, 3), thaw(1, 2, 6)}, span(3, 5)},
		{[]api.Signal{thaw(1, 1, 6), freeze(1, 2, 3)}, span(3, 5)},
		{[]api.Signal{thaw(1, 1, 3), freeze(1, 2, 6)}, span(6, 15)},
		{[]api.Signal{freeze(1, 1, 3), thaw(1, 2, 6), freeze(1, 3, 8)}, append(span(3, 5), span(8, 15)...)},
		{[]api.Signal{freeze(1, 1, 3), freeze(1, 2, 5), thaw(1, 3, 4)}, append(span(3, 3), span(5, 15)...)},
		{[]api.Signal{thaw(1, 1, 3)}, nil},
		{[]api.Signal{lift(1, 1, 3, 9)}, nil},
		// Of one day, the signal of the greater bureau is later, and of one bureau
		// that of the greater Id.
		{[]api.Signal{freeze(1, 1, 3), thaw(1, 2, 3)}, nil},
		{[]api.Signal{thaw(1, 1, 3), freeze(1, 2, 3)}, span(3, 15)},
		{[]api.Signal{thaw(1, 2, 3), freeze(2, 1, 3)}, span(3, 15)},
		{[]api.Signal{freeze(1, 2, 3), thaw(2, 1, 3)}, nil},
		{[]api.Signal{freeze(1, 2, 4), thaw(2, 1, 3)}, span(4, 15)},
		{[]api.Signal{thaw(1, 2, 4), freeze(2, 1, 3)}, span(3, 3)},
		// A lift opens a file on both of its days.
		{[]api.Signal{freeze(1, 1, 3), lift(1, 2, 6, 8)}, append(span(3, 5), span(9, 15)...)},
		{[]api.Signal{freeze(1, 1, 3), lift(1, 2, 6, 6)}, append(span(3, 5), span(7, 15)...)},
		{[]api.Signal{freeze(1, 1, 3), lift(1, 2, 6, 15)}, span(3, 5)},
		{[]api.Signal{freeze(1, 1, 3), lift(1, 2, 5, 6), lift(1, 3, 9, 10)}, append(append(span(3, 4), span(7, 8)...), span(11, 15)...)},
		{[]api.Signal{freeze(1, 1, 3), lift(1, 2, 5, 12), lift(1, 3, 6, 7)}, append(span(3, 4), span(13, 15)...)},
		{[]api.Signal{freeze(1, 1, 3), lift(1, 2, 6, 7), lift(1, 3, 5, 12)}, append(span(3, 4), span(13, 15)...)},
		// One that came before the freeze opens nothing, though it goes on.
		{[]api.Signal{freeze(1, 2, 3), lift(1, 1, 2, 9)}, span(3, 15)},
		{[]api.Signal{freeze(1, 1, 3), freeze(1, 2, 6), lift(1, 3, 5, 9)}, append(span(3, 4), span(6, 15)...)},
		{[]api.Signal{lift(1, 1, 3, 9), freeze(1, 2, 3)}, span(3, 15)},
		{[]api.Signal{freeze(1, 1, 3), lift(1, 2, 3, 9)}, span(10, 15)},
		{[]api.Signal{freeze(1, 2, 3), lift(2, 1, 3, 9)}, span(10, 15)},
		{[]api.Signal{lift(1, 2, 3, 9), freeze(2, 1, 3)}, span(3, 15)},
		// A thaw between ends the freeze for good; one before it does not.
		{[]api.Signal{freeze(1, 1, 3), thaw(1, 2, 5), lift(1, 3, 4, 6)}, span(3, 3)},
		{[]api.Signal{freeze(1, 1, 3), lift(1, 2, 5, 12), thaw(1, 3, 2)}, append(span(3, 4), span(13, 15)...)},
		{[]api.Signal{freeze(1, 1, 3), thaw(1, 2, 6), freeze(1, 3, 8), lift(1, 4, 7, 12)}, append(span(3, 5), span(8, 15)...)},
		// Alerts are something else, and so are other files.
		{[]api.Signal{freeze(1, 1, 3), alert(1, 2, 4, 9), clearing(1, 3, 6)}, span(3, 15)},
		{[]api.Signal{freeze(1, 1, 3), ofFile(6, thaw(1, 2, 5)), ofFile(4, lift(1, 3, 6, 9))}, span(3, 15)},
		{[]api.Signal{ofFile(6, freeze(1, 1, 3)), thaw(1, 2, 5)}, nil},
		{[]api.Signal{thaw(1, 1, 1), ofFile(6, freeze(1, 2, 3))}, nil},
	} {
		if got := days(t, x.l, func(s state) bool { return s.frozen }); !slices.Equal(got, x.want) {
			t.Error(i, got, x.want)
		}
	}
}

// P9.2: on which days a file has an alert.
func TestAlert(t *testing.T) {
	for i, x := range []struct {
		l    []api.Signal
		want []int
	}{
		{nil, nil},
		{[]api.Signal{alert(1, 1, 0, 0)}, span(0, 0)},
		{[]api.Signal{alert(1, 1, 3, 7)}, span(3, 7)},
		{[]api.Signal{alert(1, 1, 3, 3)}, span(3, 3)},
		{[]api.Signal{alert(1, 1, 3, 9), clearing(1, 2, 6)}, span(3, 5)},
		{[]api.Signal{clearing(1, 1, 2), alert(1, 2, 3, 9)}, span(3, 9)},
		{[]api.Signal{clearing(1, 1, 2)}, nil},
		{[]api.Signal{alert(1, 1, 3, 5), alert(1, 2, 8, 10)}, append(span(3, 5), span(8, 10)...)},
		// Of two only the later one counts, be it the shorter one.
		{[]api.Signal{alert(1, 1, 3, 12), alert(1, 2, 5, 7)}, span(3, 7)},
		{[]api.Signal{alert(1, 1, 3, 12), alert(1, 2, 3, 7)}, span(3, 7)},
		{[]api.Signal{alert(1, 1, 3, 7), alert(1, 2, 3, 12)}, span(3, 12)},
		{[]api.Signal{alert(1, 9, 3, 12), alert(2, 1, 3, 7)}, span(3, 7)},
		{[]api.Signal{alert(1, 1, 3, 9), clearing(1, 2, 3)}, nil},
		{[]api.Signal{clearing(1, 1, 3), alert(1, 2, 3, 9)}, span(3, 9)},
		{[]api.Signal{alert(1, 9, 3, 9), clearing(2, 1, 3)}, nil},
		{[]api.Signal{clearing(1, 9, 3), alert(2, 1, 3, 9)}, span(3, 9)},
		{[]api.Signal{alert(1, 1, 3, 15), clearing(1, 2, 6), alert(1, 3, 9, 11)}, append(span(3, 5), span(9, 11)...)},
		{[]api.Signal{alert(1, 1, 3, 9), freeze(1, 2, 4), thaw(1, 3, 5), lift(1, 4, 6, 7)}, span(3, 9)},
		{[]api.Signal{freeze(1, 1, 3), lift(1, 2, 4, 9)}, nil},
		{[]api.Signal{alert(1, 1, 3, 9), ofFile(6, clearing(1, 2, 5)), ofFile(4, alert(1, 3, 6, 6))}, span(3, 9)},
		{[]api.Signal{ofFile(6, alert(1, 1, 3, 9))}, nil},
	} {
		if got := days(t, x.l, func(s state) bool { return s.alert }); !slices.Equal(got, x.want) {
			t.Error(i, got, x.want)
		}
	}
}

// P9.2: files and days are told from each other up to their ends.
func TestStateAtTheEnds(t *testing.T) {
	l := []api.Signal{ofFile(0, freeze(0, 0, 0)), ofFile(api.MaxId, freeze(9, 1, api.MaxDay)), ofFile(api.MaxId, alert(9, 2, 0, api.MaxDay))}
	for _, x := range []struct {
		file, day     int
		frozen, alert bool
	}{{0, 0, true, false}, {0, api.MaxDay, true, false}, {api.MaxId, 0, false, true}, {api.MaxId, api.MaxDay - 1, false, true}, {api.MaxId, api.MaxDay, true, true}, {1, 0, false, false}, {api.MaxId - 1, api.MaxDay, false, false}} {
		if frozen, alert, e := inquiry.State(l, x.file, x.day); frozen != x.frozen || alert != x.alert || e != api.OK {
			t.Error(x, frozen, alert, e)
		}
	}
}

// P9.2: State is as the definitions tell, with many signals too.
func TestStateAgain(t *testing.T) {
	r := newRandom(2)
	seen := map[state]int{}
	for range 2000 {
		w := world{g: api.Gate{Signals: r.signals(r.Intn(41))}}
		for w.file = 4; w.file < 9; w.file++ {
			for w.day = range 32 {
				want := state{isFrozen(w.g.Signals, w.file, w.day), hasAlert(w.g.Signals, w.file, w.day), api.OK}
				if got := w.state(); got != want {
					t.Fatal(w, got, want)
				}
				seen[want]++
			}
		}
	}
	for _, s := range []state{{}, {frozen: true}, {alert: true}, {frozen: true, alert: true}} {
		if seen[s] < 1000 {
			t.Error("too few", s, seen)
		}
	}
}
