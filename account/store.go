package account

import (
	"cmp"
	"iter"
	"maps"
	"slices"

	"goodname/api"
)

// store is reports by their Ids, so that each one is there once.
type store struct{ reports map[int]api.Report }

// newStore keeps the reports that were made until a day.
func newStore(l []api.Report, day int) store {
	s := store{map[int]api.Report{}}
	for _, r := range l {
		if r.Made <= day {
			s.reports[r.Id] = r
		}
	}
	return s
}

// ofKind returns the reports of a kind by Made, and of the same Made by Id.
func (s store) ofKind(kind uint8) []api.Report {
	l := inOrder(maps.Values(s.reports), madeOf, idOf)
	return slices.DeleteFunc(l, func(r api.Report) bool { return r.Kind != kind })
}

// named returns the report that a withdrawal or a correction names, if it is
// one of the same source and account.
func (s store) named(r api.Report) (api.Report, bool) {
	other, ok := s.reports[r.Of]
	return other, ok && other.Source == r.Source && other.Account == r.Account
}

func idOf(r api.Report) int    { return r.Id }
func madeOf(r api.Report) int  { return r.Made }
func aboutOf(r api.Report) int { return r.About }

// inOrder returns the elements of a sequence by the first one of their numbers,
// those that have the same by the next one, and so on.
func inOrder[T any](l iter.Seq[T], numbers ...func(T) int) []T {
	return slices.SortedFunc(l, func(a, b T) int {
		for _, number := range numbers {
			if c := cmp.Compare(number(a), number(b)); c != 0 {
				return c
			}
		}
		return 0
	})
}
