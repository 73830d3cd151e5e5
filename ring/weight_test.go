package ring_test

import (
	"testing"

	"goodname/api"
)

// P8.1: a part weighs less the more filings have it, and nothing if it is common.
func TestWeightOfPart(t *testing.T) {
	weights := map[int]int{2: 1000, 3: 500, 4: 333, 5: 250, 6: 200, 7: 166, 8: 142, 12: 90, 23: 45, 24: 43}
	for n, want := range weights {
		for common := 2; common <= api.MaxFilings; common++ {
			w := world{h: api.Hunt{Common: common, Size: 2}, a: 0, b: n - 1}
			for i := range n {
				w.l = append(w.l, filing(i, 9, 77))
			}
			if n >= common {
				want = 0
			}
			if common > n {
				want = weights[n]
			}
			if got := w.weight(); got != (weight{want, api.OK}) {
				t.Error(n, common, got)
			}
		}
	}
}

// P8.1: just filings that are in one Window weigh something, on the same day if it
// is 0; but those that are not still have their parts.
func TestWindow(t *testing.T) {
	for i, x := range []struct{ window, day, other, want int }{
		{0, 5, 5, 500}, {0, 5, 6, 0}, {0, 6, 5, 0}, {1, 5, 6, 500}, {1, 6, 5, 500}, {1, 5, 7, 0}, {1, 7, 5, 0},
		{30, 0, 30, 500}, {30, 0, 31, 0}, {30, 31, 0, 0}, {30, 30, 0, 500},
		{api.MaxDay - 1, 0, api.MaxDay, 0}, {api.MaxDay, 0, api.MaxDay, 500}, {api.MaxDay, api.MaxDay, 0, 500}, {api.MaxDay - 1, api.MaxDay, 0, 0},
	} {
		w := world{h: api.Hunt{Window: x.window, Common: 4, Size: 2}, a: 1, b: 3}
		w.l = []api.Filing{filing(1, x.day, 7), filing(2, 50000, 7), filing(3, x.other, 7)}
		if got := w.weight(); got != (weight{x.want, api.OK}) {
			t.Error(i, got)
		}
	}
}

// P8.1: all parts that both have count, and no others.
func TestWeightOfSeveralParts(t *testing.T) {
	l := []api.Filing{
		filing(2, 0, 0, 10, 20, 30, 40, api.MaxId), filing(4, 0, 0, 11, 20, 31, 40, api.MaxId), filing(6, 0, 10, 11, 20), filing(8, 0),
		filing(9, 0, 40), filing(10, 0, 1, 2, 3, 4, 5, 6), filing(11, 0, 1, 2, 3, 4, 5, 6),
	}
	w := world{h: api.Hunt{Common: 24, Size: 2}, l: l}
	for _, x := range []struct{ a, b, want int }{
		{2, 4, 3000}, {2, 6, 1500}, {4, 6, 1500}, {2, 8, 0}, {8, 9, 0}, {2, 9, 500}, {4, 9, 500}, {6, 9, 0}, {10, 11, 6000}, {2, 10, 0},
	} {
		for _, w := range []world{w.about(x.a, x.b), w.about(x.b, x.a)} {
			if got := w.weight(); got != (weight{x.want, api.OK}) {
				t.Error(x, got)
			}
		}
	}
}

// P8.1: weights of many filings are as the chapter defines them, the same from both
// ends, and 6,000 at the most.
func TestWeightAgain(t *testing.T) {
	r := newRandom(1)
	seen := map[int]bool{}
	for range 400 {
		w := r.world(2 + r.Intn(23))
		for i, a := range w.l {
			for _, b := range w.l[:i] {
				want := weight{weightAgain(w, a, b), api.OK}
				got, back := w.about(a.Id, b.Id).weight(), w.about(b.Id, a.Id).weight()
				if got != want || back != want || want.n > 6000 {
					t.Fatal(w, a, b, got, back, want)
				}
				seen[want.n] = true
			}
		}
	}
	if len(seen) < 40 {
		t.Error("too few weights", len(seen))
	}
}
