package dispute_test

import (
	"slices"
	"testing"

	"goodname/api"
)

// P5.1: a dispute is open from its day on until the day before it is decided, and
// then it is what the answer that counts says.
func TestWhere(t *testing.T) {
	for i, x := range []struct {
		answers []api.Answer
		where   uint8
		decided int
	}{
		{nil, api.DisputeSilent, 18},
		{[]api.Answer{stands(1, 51, 12)}, api.DisputeStands, 12},
		{[]api.Answer{fixes(1, 51, 13, 8, 90)}, api.DisputeFixed, 13},
		{[]api.Answer{drops(1, 51, 16)}, api.DisputeDropped, 16},
		// The last day of the term, and those beyond it.
		{[]api.Answer{stands(1, 51, 17)}, api.DisputeStands, 17},
		{[]api.Answer{fixes(1, 51, 17, 8, 100)}, api.DisputeFixed, 17},
		{[]api.Answer{stands(1, 51, 18)}, api.DisputeSilent, 18},
		{[]api.Answer{drops(1, 51, 19)}, api.DisputeSilent, 18},
		{[]api.Answer{drops(1, 51, api.MaxDay)}, api.DisputeSilent, 18},
		// Before its day nothing counts.
		{[]api.Answer{stands(1, 51, 11)}, api.DisputeSilent, 18},
		{[]api.Answer{stands(1, 51, 0), stands(2, 51, 11), drops(3, 51, 14), stands(4, 51, 18)}, api.DisputeDropped, 14},
		// The first one by Day, and of the same Day by Id, wherever it is in the list.
		{[]api.Answer{stands(1, 51, 15), drops(2, 51, 14)}, api.DisputeDropped, 14},
		{[]api.Answer{drops(2, 51, 14), stands(1, 51, 15)}, api.DisputeDropped, 14},
		{[]api.Answer{drops(2, 51, 14), stands(1, 51, 14)}, api.DisputeStands, 14},
		{[]api.Answer{stands(0, 51, 14), drops(2, 51, 14)}, api.DisputeStands, 14},
		{[]api.Answer{fixes(9, 51, 14, 8, 1), stands(5, 51, 15), stands(8, 51, 14), drops(7, 51, 14)}, api.DisputeDropped, 14},
	} {
		w := one(x.answers...)
		for day := range 30 {
			want := whereabouts{x.where, x.decided, api.OK}
			if day < 12 {
				want.where = api.DisputeNone
			} else if day < x.decided {
				want.where = api.DisputeOpen
			}
			if got := w.where(51, day); got != want {
				t.Error(i, day, got, want)
			}
		}
		if got := w.where(51, api.MaxDay); got.where != x.where {
			t.Error(i, got)
		}
	}
}

// P5.1: an answer counts for its dispute, not for another one of the same fact.
func TestWhereOfSeveral(t *testing.T) {
	w := quarrel([]api.Report{owed(1, 8, 100), owed(2, 8, 9)}, []api.Dispute{contest(53, 1, 14), contest(51, 1, 12), contest(52, 2, 12)},
		drops(3, 53, 13), stands(2, 51, 16), fixes(1, 53, 16, 8, 7))
	for id, want := range map[int]whereabouts{
		51: {api.DisputeStands, 16, api.OK}, 52: {api.DisputeSilent, 18, api.OK}, 53: {api.DisputeFixed, 16, api.OK},
	} {
		if got := w.where(id, 20); got != want {
			t.Error(id, got)
		}
	}
}

// P5.1: within a term of no days only the day of the dispute is left.
func TestWhereWithoutTerm(t *testing.T) {
	for i, x := range []struct {
		w    world
		day  int
		want whereabouts
	}{
		{one(), 12, whereabouts{api.DisputeOpen, 13, api.OK}},
		{one(), 13, whereabouts{api.DisputeSilent, 13, api.OK}},
		{one(stands(1, 51, 12)), 12, whereabouts{api.DisputeStands, 12, api.OK}},
		{one(stands(1, 51, 13)), 12, whereabouts{api.DisputeOpen, 13, api.OK}},
		{one(stands(1, 51, 13)), 13, whereabouts{api.DisputeSilent, 13, api.OK}},
	} {
		x.w.d.Terms = api.Terms{}
		if got := x.w.where(51, x.day); got != x.want {
			t.Error(i, got)
		}
	}
}

// P5.1: ErrNone if there is no dispute with the Id, whatever else has it.
func TestWhereOfNone(t *testing.T) {
	w := one(stands(7, 51, 13))
	for _, id := range append(odd(0, api.MaxId), 0, 1, 7, 50, 52) {
		for _, day := range []int{0, 12, 13, api.MaxDay} {
			if got := w.where(id, day); got != (whereabouts{e: api.ErrNone}) {
				t.Error(id, day, got)
			}
			if got := (world{}).where(id, day); got != (whereabouts{e: api.ErrNone}) {
				t.Error(id, day, got)
			}
		}
	}
}

// P5.2: those that are open, by the last day of their terms, and of the same one
// by Id.
func TestDue(t *testing.T) {
	l := []api.Report{owed(1, 8, 100), owed(2, 8, 9, made(2))}
	// 60 is decided on the day on which it comes.
	disputes := []api.Dispute{contest(57, 1, 13), contest(59, 2, 11), contest(54, 2, 13), contest(52, 1, 14), contest(58, 1, 11), contest(60, 1, 12)}
	w := quarrel(l, disputes, drops(1, 60, 12), stands(2, 59, 13), stands(3, 57, 19))
	for day, want := range map[int][]int{
		0: nil, 10: nil, 11: {58, 59}, 12: {58, 59}, 13: {58, 54, 57}, 14: {58, 54, 57, 52}, 16: {58, 54, 57, 52}, 17: {54, 57, 52}, 18: {54, 57, 52}, 19: {52}, 20: nil, api.MaxDay: nil,
	} {
		for range 5 {
			w.d.Disputes, w.d.Answers = mixedUp(newRandom(int64(day)), w.d.Disputes), mixedUp(newRandom(int64(day)), w.d.Answers)
			if got, e := w.due(day); e != api.OK || !slices.Equal(got, want) {
				t.Error(day, got, e, want)
			}
		}
	}
}
