package inquiry_test

import (
	"testing"

	"goodname/api"
	"goodname/inquiry"
)

// P9.3: what becomes of an inquiry for each purpose, if the file is frozen and has
// an alert, and if nobody has a licence.
func TestBecomes(t *testing.T) {
	frozen, alarmed := freeze(1, 1, 3), alert(1, 2, 3, 9)
	states := [][]api.Signal{nil, {frozen}, {alarmed}, {frozen, alarmed}}
	for _, x := range []struct {
		purpose        uint8
		called, silent [4]uint8 // by the state
	}{
		{api.PurposeCredit, [4]uint8{0, 2, 0, 2}, [4]uint8{0, 2, 3, 2}},
		{api.PurposeReview, [4]uint8{0, 0, 0, 0}, [4]uint8{0, 0, 0, 0}},
		{api.PurposeEmploy, [4]uint8{0, 2, 0, 2}, [4]uint8{0, 2, 0, 2}},
		{api.PurposeCourt, [4]uint8{0, 0, 0, 0}, [4]uint8{0, 0, 0, 0}},
		{api.PurposeSelf, [4]uint8{0, 0, 0, 0}, [4]uint8{0, 0, 0, 0}},
		{api.PurposeMarket, [4]uint8{0, 2, 3, 2}, [4]uint8{0, 2, 3, 2}},
	} {
		who, licences := 900, []api.Licence{licence(900, x.purpose)}
		if x.purpose == api.PurposeSelf {
			who, licences = 5, nil
		}
		for i, l := range states {
			for called, want := range map[bool]uint8{true: x.called[i], false: x.silent[i]} {
				g, q := api.Gate{Licences: licences, Signals: l}, api.Inquiry{Day: 5, Who: who, File: 5, Purpose: x.purpose, Called: called}
				if n, e := inquiry.Ask(g, q); n != want || e != api.OK {
					t.Error(x.purpose, i, called, n, e)
				}
				q.Who = 901
				if n, e := inquiry.Ask(g, q); n != api.AskPurpose || e != api.OK {
					t.Error("without a licence", x.purpose, i, called, n, e)
				}
			}
		}
	}
}

// P9.3: a licence is for one who asks, for one purpose, and for some days, all in
// one; it needs not be the first one.
func TestLicenceOfAsk(t *testing.T) {
	of := func(who int, purpose uint8, from, to int) api.Licence {
		return api.Licence{Who: who, Purpose: purpose, From: from, To: to}
	}
	for i, x := range []struct {
		l    []api.Licence
		want uint8
	}{
		{nil, api.AskPurpose},
		{[]api.Licence{of(900, 1, 50, 50)}, api.AskTold},
		{[]api.Licence{of(900, 1, 0, 50)}, api.AskTold},
		{[]api.Licence{of(900, 1, 50, 90)}, api.AskTold},
		{[]api.Licence{of(900, 1, 51, 90)}, api.AskPurpose},
		{[]api.Licence{of(900, 1, 0, 49)}, api.AskPurpose},
		{[]api.Licence{of(900, 2, 0, 90)}, api.AskPurpose},
		{[]api.Licence{of(899, 1, 0, 90)}, api.AskPurpose},
		{[]api.Licence{of(5, 1, 0, 90)}, api.AskPurpose},
		{[]api.Licence{of(900, 2, 0, 90), of(901, 1, 0, 90), of(900, 1, 60, 90), of(900, 1, 0, 40)}, api.AskPurpose},
		{[]api.Licence{of(900, 2, 0, 90), of(901, 1, 0, 90), of(900, 1, 60, 90), of(900, 1, 40, 60)}, api.AskTold},
		{[]api.Licence{of(900, 1, 40, 60), of(900, 1, 60, 90), of(900, 1, 0, 40)}, api.AskTold},
		{[]api.Licence{of(900, 1, 0, 90), of(900, 1, 0, 90)}, api.AskTold},
	} {
		if n, e := inquiry.Ask(api.Gate{Licences: x.l}, credit(1, 50)); n != x.want || e != api.OK {
			t.Error(i, n, e)
		}
	}
}

// P9.3: a person asks for the own file without a licence, and nobody else does for
// it. For another purpose the person needs one as everybody does.
func TestAskForSelf(t *testing.T) {
	var all []api.Licence
	for _, p := range purposes() {
		if p != api.PurposeSelf {
			all = append(all, licence(900, p))
		}
	}
	for i, x := range []struct {
		l       []api.Licence
		who     int
		purpose uint8
		want    uint8
	}{
		{nil, 5, api.PurposeSelf, api.AskTold},
		{all, 5, api.PurposeSelf, api.AskTold},
		{nil, 900, api.PurposeSelf, api.AskPurpose},
		{all, 900, api.PurposeSelf, api.AskPurpose},
		{nil, 0, api.PurposeSelf, api.AskPurpose},
		{all, 5, api.PurposeCredit, api.AskPurpose},
		{all, 5, api.PurposeReview, api.AskPurpose},
		{[]api.Licence{licence(5, api.PurposeCredit)}, 5, api.PurposeCredit, api.AskTold},
	} {
		g, q := api.Gate{Licences: x.l}, api.Inquiry{Id: 3, Day: 50, Who: x.who, File: 5, Purpose: x.purpose}
		if n, e := inquiry.Ask(g, q); n != x.want || e != api.OK {
			t.Error(i, n, e)
		}
	}
}

// P9.3: what counts is the day of the inquiry and its file, not its Id.
func TestDayAndFileOfAsk(t *testing.T) {
	g := api.Gate{Licences: []api.Licence{licence(900, 1)}, Signals: []api.Signal{freeze(1, 1, 10), thaw(1, 2, 20), alert(1, 3, 15, 25)}}
	for day, want := range map[int]uint8{0: 0, 9: 0, 10: 2, 15: 2, 19: 2, 20: 3, 25: 3, 26: 0, api.MaxDay: 0} {
		for _, id := range []int{0, day, api.MaxId} {
			for file, want := range map[int]uint8{5: want, 4: 0, 6: 0} {
				q := credit(id, day)
				q.File = file
				if n, e := inquiry.Ask(g, q); n != want || e != api.OK {
					t.Error(q, n, e)
				}
			}
		}
	}
}

// P9.3: Ask is as the definitions tell.
func TestAskAgain(t *testing.T) {
	r := newRandom(3)
	seen := map[uint8]int{}
	for range 4000 {
		w := r.world()
		for range 5 {
			w.q = r.inquiry(r.Intn(100))
			want := becameAgain(w.g, w.q)
			if got := w.became(); got != (asked{want, api.OK}) {
				t.Fatal(w, got, want)
			}
			seen[want]++
		}
	}
	for n := range uint8(4) {
		if seen[n] < 500 {
			t.Error("too few", n, seen)
		}
	}
}
