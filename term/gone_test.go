package term_test

import (
	"slices"
	"testing"

	"goodname/api"
)

// P4.4: gone are all facts on a day that are not shown, but those about a later
// day.
func TestGone(t *testing.T) {
	about, from, shut := []api.Law{law(api.RepOwed, api.BaseAbout, 5)}, []api.Law{law(api.RepOwed, api.BaseMade, 5)}, []api.Law{law(api.RepOwed, api.BaseClosed, 5)}
	lands := world{code: api.Code{Laws: from}, homes: []api.Home{{Account: 5, Land: 1}, {Account: 6, Land: 2}}, l: []api.Report{owed(9, 8, 5, on(6)), owed(8, 8, 5), owed(7, 8, 5, on(7)), fact(api.RepPaid, 6, 8, 5)}}
	for _, x := range []struct {
		name string
		w    world
		day  int
		want []int
	}{
		{"nothing is known", landOne(about), 10, nil},
		{"not known yet", landOne(nil, owed(1, 8, 5)), 9, nil},
		{"known", landOne(nil, owed(1, 8, 5)), 10, []int{1}},
		{"about the day", landOne(nil, owed(1, 12, 5)), 12, []int{1}},
		{"about a later day", landOne(nil, owed(1, 12, 5)), 11, nil},
		{"about a later day than its last one", landOne(from, owed(1, 16, 5)), 15, nil},
		{"its last day is over before its About", landOne(from, owed(1, 16, 5)), 16, []int{1}},
		{"the last day, from About", landOne(about, owed(1, 8, 5)), 13, nil},
		{"the day after, from About", landOne(about, owed(1, 8, 5)), 14, []int{1}},
		{"the last day, from Made", landOne(from, owed(1, 8, 5)), 15, nil},
		{"the day after, from Made", landOne(from, owed(1, 8, 5)), 16, []int{1}},
		{"never closed", landOne(shut, owed(1, 8, 5)), api.MaxDay, nil},
		{"the last day, from the closing", landOne(shut, owed(1, 8, 5), closed(2, 12)), 17, []int{2}},
		{"the day after, from the closing", landOne(shut, owed(1, 8, 5), closed(2, 12)), 18, []int{1, 2}},
		{"withdrawn", landOne(nil, owed(1, 8, 5), withdraw(2, 1, made(12))), 12, nil},
		{"not withdrawn yet", landOne(nil, owed(1, 8, 5), withdraw(2, 1, made(12))), 11, []int{1}},
		{"corrected to a later day", landOne(nil, owed(1, 8, 5), correct(2, 1, 20, 5, made(12))), 12, nil},
		{"corrected to a day that is kept", landOne(about, owed(1, 8, 5), correct(2, 1, 10, 5, made(12))), 15, nil},
		{"of all accounts, by their Ids", lands, 10, []int{6, 7, 9}},
		{"of all accounts, later", lands, 16, []int{6, 7, 8, 9}},
		{"the day 0", landOne(nil, owed(0, 0, 0, made(0))), 0, []int{0}},
	} {
		r := newRandom(2)
		for range 4 {
			if l, e := x.w.gone(x.day); e != api.OK || !slices.Equal(l, x.want) {
				t.Error(x.name, l, e)
			}
			x.w.l = mixedUp(r, append(x.w.l, x.w.l[:len(x.w.l)/2]...))
		}
	}
}
