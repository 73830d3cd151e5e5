package inquiry_test

import (
	"slices"
	"testing"

	"goodname/api"
)

// visits is a file that is open but from 100 on, and on which many ask.
func visits() world {
	w := world{file: 5, day: 200, purpose: api.PurposeSelf}
	for _, p := range purposes() {
		if p != api.PurposeSelf {
			w.g.Licences = append(w.g.Licences, licence(900, p))
		}
	}
	w.g.Signals = []api.Signal{freeze(1, 1, 100), thaw(1, 2, 150)}
	return w
}

// shown returns the inquiries of the traces of a world.
func (w world) shown(t *testing.T) []int {
	t.Helper()
	got := w.traces()
	if got.e != api.OK {
		t.Fatal(w, got)
	}
	var ids []int
	for _, x := range got.l {
		ids = append(ids, x.Inquiry)
	}
	return ids
}

// P9.4: traces tell who asked, when, for what, and what became of it on this day, by
// the gate; to others just what was told for credit is shown, for all purposes alike.
func TestTraces(t *testing.T) {
	w := visits()
	ask := func(id, day, who int, purpose uint8) api.Inquiry {
		return api.Inquiry{Id: id, Day: day, Who: who, File: 5, Purpose: purpose, Called: id%2 == 0}
	}
	w.g.Signals = append(w.g.Signals, alert(1, 3, 180, 190))
	w.l = []api.Inquiry{ask(1, 99, 900, 1), ask(2, 100, 900, 1), ask(3, 149, 900, 2), ask(4, 149, 900, 3), ask(5, 150, 900, 1), ask(6, 150, 5, 5), ask(7, 150, 900, 5), ask(8, 160, 901, 1), ask(9, 160, 900, 3), ask(10, 180, 900, 1), ask(11, 180, 900, 1), ask(12, 191, 900, 6), ask(13, 190, 900, 6)}
	told := []api.Trace{{Inquiry: 1, Who: 900, Day: 99, Purpose: 1}, {Inquiry: 5, Who: 900, Day: 150, Purpose: 1}, {Inquiry: 10, Who: 900, Day: 180, Purpose: 1}}
	all := []api.Trace{
		told[0], {Inquiry: 2, Who: 900, Day: 100, Purpose: 1, Became: 2}, {Inquiry: 3, Who: 900, Day: 149, Purpose: 2}, {Inquiry: 4, Who: 900, Day: 149, Purpose: 3, Became: 2},
		told[1], {Inquiry: 6, Who: 5, Day: 150, Purpose: 5}, {Inquiry: 7, Who: 900, Day: 150, Purpose: 5, Became: 1}, {Inquiry: 8, Who: 901, Day: 160, Purpose: 1, Became: 1},
		{Inquiry: 9, Who: 900, Day: 160, Purpose: 3}, told[2], {Inquiry: 11, Who: 900, Day: 180, Purpose: 1, Became: 3}, {Inquiry: 13, Who: 900, Day: 190, Purpose: 6, Became: 3}, {Inquiry: 12, Who: 900, Day: 191, Purpose: 6},
	}
	for _, p := range purposes() {
		want := told
		if p == api.PurposeSelf {
			want = all
		}
		if got := w.shownFor(p).traces(); !same(got, traced{l: want}) {
			t.Error(p, got, want)
		}
	}
}

// P9.4: traces are by Day, and of the same Day by Inquiry.
func TestOrderOfTraces(t *testing.T) {
	w := visits()
	for id, day := range []int{30, 10, 30, 20, 10, 0, 20, 30} {
		w.l = append(w.l, credit(id, day))
	}
	want := []int{5, 1, 4, 3, 6, 0, 2, 7}
	for _, p := range purposes() {
		if got := w.shownFor(p).shown(t); !slices.Equal(got, want) {
			t.Error(p, got)
		}
	}
}

// P9.4: traces are kept for 730 days, and shown to others for 365 days, from their
// own day on.
func TestDaysOfTraces(t *testing.T) {
	for _, day := range []int{0, 50, 99270} {
		w := visits()
		w.l = []api.Inquiry{credit(1, day)}
		for after, want := range map[int][2]bool{-1: {}, 0: {true, true}, 1: {true, true}, 364: {true, true}, 365: {true, true}, 366: {true, false}, 729: {true, false}, 730: {true, false}, 731: {}, 90000: {}} {
			w.day = day + after
			if w.day < 0 || w.day > api.MaxDay {
				continue
			}
			for _, p := range purposes() {
				shown := want[1]
				if p == api.PurposeSelf {
					shown = want[0]
				}
				if got := w.shownFor(p).shown(t); (len(got) == 1) != shown {
					t.Error(day, after, p, got)
				}
			}
			if got := w.count(); (got.n == 1) != want[1] || got.e != api.OK {
				t.Error(day, after, got)
			}
		}
	}
}

// P9.4: traces are those of one file; who asked is not a file.
func TestFileOfTraces(t *testing.T) {
	w := visits()
	for id, file := range []int{5, 6, 900, 5, 0, api.MaxId} {
		q := credit(id, 10+id)
		q.File = file
		w.l = append(w.l, q)
	}
	for file, want := range map[int][]int{5: {0, 3}, 6: {1}, 900: {2}, 0: {4}, api.MaxId: {5}, 7: nil} {
		for _, p := range purposes() {
			w.file = file
			if got := w.shownFor(p).shown(t); !slices.Equal(got, want) {
				t.Error(file, p, got)
			}
		}
		if got := w.count(); got != (counted{min(len(want), 1), api.OK}) {
			t.Error(file, got)
		}
	}
}

// P9.4: nothing is shown of no inquiries.
func TestNoTraces(t *testing.T) {
	for _, w := range []world{visits(), {}} {
		for _, p := range purposes() {
			if got := w.shownFor(p).traces(); got.e != api.OK || len(got.l) > 0 {
				t.Error(p, got)
			}
		}
		if got := w.count(); got != (counted{}) {
			t.Error(got)
		}
	}
}

// P9.4: which inquiries count for credit.
func TestCount(t *testing.T) {
	for i, x := range []struct {
		days []int
		want int
	}{
		{[]int{0}, 1},
		{[]int{200}, 1},
		{[]int{7, 7, 7}, 1},
		{[]int{7, 21}, 1},
		{[]int{7, 22}, 2},
		{[]int{0, 14}, 1},
		{[]int{0, 15}, 2},
		// What counts is how far they are from the last one that counted.
		{[]int{0, 10, 20, 30}, 2},
		{[]int{0, 14, 28, 42}, 2},
		{[]int{0, 15, 29, 30}, 3},
		{[]int{0, 1, 15, 16, 30, 31}, 3},
		{[]int{31, 16, 30, 1, 15, 0}, 3},
		{[]int{40, 1, 16, 15, 10}, 3},
		{[]int{0, 20, 40, 60, 80}, 5},
		// Those who were refused do not count, nor do others near them count less.
		{[]int{99, 100, 110}, 1},
		{[]int{100, 149}, 0},
		{[]int{140, 149, 155, 164}, 1},
		{[]int{140, 149, 150, 165}, 2},
		{[]int{86, 100, 150}, 2},
		// Days after that day do not count.
		{[]int{200, 201, 300}, 1},
		{[]int{201}, 0},
	} {
		w := visits()
		for id, day := range x.days {
			w.l = append(w.l, credit(id, day))
		}
		if got := w.count(); got != (counted{x.want, api.OK}) {
			t.Error(i, got)
		}
	}
}

// P9.4: one that is not shown any more does not stand for others.
func TestCountAsTimeGoes(t *testing.T) {
	w := visits()
	w.l = []api.Inquiry{credit(1, 10), credit(2, 20), credit(3, 30), credit(4, 40)}
	for day, want := range map[int]int{9: 0, 10: 1, 24: 1, 29: 1, 30: 2, 200: 2, 375: 2, 376: 2, 385: 2, 386: 1, 395: 1, 396: 1, 405: 1, 406: 0} {
		if got := w.on(day).count(); got != (counted{want, api.OK}) {
			t.Error(day, got)
		}
	}
}

// P9.4: only inquiries for credit count, though others are shown to the person.
func TestCountIsForCredit(t *testing.T) {
	for _, p := range purposes() {
		w := visits()
		w.l = []api.Inquiry{{Id: 1, Day: 20, Who: 900, File: 5, Purpose: p}, {Id: 2, Day: 90, Who: 5, File: 5, Purpose: api.PurposeSelf}}
		want := counted{}
		if p == api.PurposeCredit {
			want.n = 1
		}
		for _, shown := range purposes() {
			if got := w.shownFor(shown).count(); got != want {
				t.Error(p, got)
			}
		}
	}
}

// P9.4: as many as there may be are all shown, and count.
func TestFullList(t *testing.T) {
	w := full().shownFor(api.PurposeSelf)
	w.g.Signals = nil
	if got := w.shown(t); len(got) != api.MaxInquiries {
		t.Error(got)
	}
	w.l, w.day = nil, 300
	w.g.Licences = []api.Licence{licence(900, api.PurposeCredit)}
	for id := range api.MaxInquiries {
		w.l = append(w.l, credit(id, 15*(id%20)))
	}
	if got := w.count(); got != (counted{20, api.OK}) {
		t.Error(got)
	}
	if got := w.shownFor(api.PurposeEmploy).shown(t); len(got) != api.MaxInquiries {
		t.Error(got)
	}
}

// P9.4: traces and counts are as the definitions tell.
func TestTracesAgain(t *testing.T) {
	r := newRandom(4)
	var self, others, several int
	for range 6000 {
		w := r.world()
		want := traced{l: tracesAgain(w.g, w.l, w.file, w.day, w.purpose)}
		if got := w.traces(); !same(got, want) {
			t.Fatal(w, got, want)
		}
		n := countAgain(daysAgain(w))
		if got := w.count(); got != (counted{n, api.OK}) {
			t.Fatal(w, got, n)
		}
		switch {
		case len(want.l) == 0:
		case w.purpose == api.PurposeSelf:
			self++
		default:
			others++
		}
		if n > 1 {
			several++
		}
	}
	if min(self, others, several) < 200 {
		t.Error("too few traces", self, others, several)
	}
}
