package account

import (
	"maps"
	"slices"

	"goodname/api"
	"goodname/order"
)

// store is reports by their Ids, so that each one is there once.
type store struct{ reports map[int]api.Report }

// newStore keeps the reports that were made until a day.
func newStore(l []api.Report, day int) store {
	s := store{map[int]api.Report{}}
	for _, r := range l {
		if r.Made <= day {
			s.reports[r.Id] = r
		}
	}
	return s
}

// ofKind returns the reports of a kind by Made, and of the same Made by Id.
func (s store) ofKind(kind uint8) []api.Report {
	l := order.By(maps.Values(s.reports), madeOf, idOf)
	return slices.DeleteFunc(l, func(r api.Report) bool { return r.Kind != kind })
}

// named returns the report that a withdrawal or a correction names, if it is
// one of the same source and account.
func (s store) named(r api.Report) (api.Report, bool) {
	other, ok := s.reports[r.Of]
	return other, ok && other.Source == r.Source && other.Account == r.Account
}

func idOf(r api.Report) int    { return r.Id }
func madeOf(r api.Report) int  { return r.Made }
func aboutOf(r api.Report) int { return r.About }
