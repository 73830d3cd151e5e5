package clerk

import (
	"math"
	"slices"

	"goodname/account"
	"goodname/api"
	"goodname/dispute"
)

// report takes a report that is made today.
func (w *work) report(n []int) {
	need(len(w.Desk.Reports) < api.MaxReports, api.ErrFull)
	need(within(n[4], 0, math.MaxUint8), api.ErrBad)
	r := api.Report{Id: n[0], Source: n[1], Account: n[2], Made: w.Day, About: n[3], Kind: uint8(n[4]), Cents: n[5], Of: n[6]}
	need(account.Check([]api.Report{r}) == api.OK, api.ErrBad)
	if slices.ContainsFunc(w.Desk.Reports, func(other api.Report) bool { return other.Id == r.Id && other != r }) {
		refuse("differs")
	}
	w.Desk.Reports = append(w.Desk.Reports, r)
	need(dispute.Check(w.Desk) == api.OK, api.ErrBad)
}

// dispute takes a dispute of a report that is shown, and of which no other one is
// open.
func (w *work) dispute(n []int) {
	need(len(w.Desk.Disputes) < api.MaxDisputes, api.ErrFull)
	with := w.Desk
	with.Disputes = append(with.Disputes, api.Dispute{Id: n[0], Report: n[1], Day: w.Day})
	need(dispute.Check(with) == api.OK, api.ErrBad)
	if others := w.openOf(n[1]); len(others) > 0 {
		refuse("open", slices.Min(others))
	}
	if !w.shows(n[1]) {
		refuse("hidden")
	}
	w.Desk = with
}

// openOf returns the disputes of a report that are open.
func (w *work) openOf(report int) []int {
	var ids []int
	for _, x := range w.Desk.Disputes {
		if x.Report == report && w.isOpen(x.Id) {
			ids = append(ids, x.Id)
		}
	}
	return ids
}

func (w *work) isOpen(id int) bool {
	where, _, _ := dispute.Where(w.Desk, id, w.Day)
	return where == api.DisputeOpen
}

// shows tells whether a report of the desk is shown.
func (w *work) shows(report int) bool {
	counting := w.counting()
	i := slices.IndexFunc(w.Desk.Reports, func(r api.Report) bool { return r.Id == report })
	return slices.Contains(w.view(counting, w.Desk.Reports[i].Account).Shown, report)
}

// answer takes the answer to a dispute that is open.
func (w *work) answer(n []int) {
	need(len(w.Desk.Answers) < api.MaxAnswers, api.ErrFull)
	need(within(n[2], 0, math.MaxUint8), api.ErrBad)
	with := w.Desk
	with.Answers = append(with.Answers, api.Answer{Id: n[0], Dispute: n[1], Day: w.Day, Says: uint8(n[2]), About: n[3], Cents: n[4]})
	need(dispute.Check(with) == api.OK, api.ErrBad)
	if !w.isOpen(n[1]) {
		refuse("late")
	}
	w.Desk = with
}
