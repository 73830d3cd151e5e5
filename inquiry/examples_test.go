package inquiry_test

import (
	"testing"

	"goodname/api"
)

// example is the gate of the chapter's examples.
func example() world {
	return world{
		g: api.Gate{
			Licences: []api.Licence{{Who: 900, Purpose: api.PurposeCredit, To: 5000}, {Who: 901, Purpose: api.PurposeReview, To: 5000}},
			Signals:  []api.Signal{freeze(1, 1, 100), lift(1, 2, 120, 130), alert(1, 3, 300, 400), thaw(2, 1, 200)},
		},
		file: 5,
	}
}

func TestExampleIsValid(t *testing.T) {
	if e := example().check(); e != api.OK {
		t.Error(e)
	}
}

func TestExamplesOfState(t *testing.T) {
	for day, want := range map[int]state{99: {}, 110: {frozen: true}, 125: {}, 131: {frozen: true}, 200: {}, 300: {alert: true}} {
		if got := example().on(day).state(); got != want {
			t.Error(day, got)
		}
	}
}

func TestExamplesOfAsk(t *testing.T) {
	called := credit(0, 300)
	called.Called = true
	for _, x := range []struct {
		q    api.Inquiry
		want uint8
	}{
		{credit(0, 110), 2},
		{credit(0, 125), 0},
		{credit(0, 300), 3},
		{called, 0},
		{api.Inquiry{Day: 110, Who: 901, File: 5, Purpose: api.PurposeReview}, 0},
		{api.Inquiry{Day: 110, Who: 901, File: 5, Purpose: api.PurposeCredit}, 1},
		{api.Inquiry{Day: 110, Who: 5, File: 5, Purpose: api.PurposeSelf}, 0},
	} {
		if got := example().with(func(w *world) { w.q = x.q }).became(); got != (asked{x.want, api.OK}) {
			t.Error(x, got)
		}
	}
}

func TestExamplesOfTraces(t *testing.T) {
	w := example().on(200).with(func(w *world) { w.l = []api.Inquiry{credit(1, 110), credit(2, 125)} })
	refused := api.Trace{Inquiry: 1, Who: 900, Day: 110, Purpose: api.PurposeCredit, Became: api.AskFrozen}
	told := api.Trace{Inquiry: 2, Who: 900, Day: 125, Purpose: api.PurposeCredit}
	if got := w.shownFor(api.PurposeSelf).traces(); !same(got, traced{l: []api.Trace{refused, told}}) {
		t.Error(got)
	}
	if got := w.shownFor(api.PurposeCredit).traces(); !same(got, traced{l: []api.Trace{told}}) {
		t.Error(got)
	}
}

// DOC.md, example 9: inquiries on 1, 10, 15, 16 and 40 count three times.
func TestExampleOfCount(t *testing.T) {
	w := example().on(50)
	for i, day := range []int{1, 10, 15, 16, 40} {
		w.l = append(w.l, credit(i, day))
	}
	if got := w.count(); got != (counted{3, api.OK}) {
		t.Error(got)
	}
}
