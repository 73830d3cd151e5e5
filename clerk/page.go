package clerk

import (
	"slices"

	"goodname/api"
	"goodname/dispute"
	"goodname/inquiry"
)

// page returns what is shown of the file of a record.
func (w *work) page(record int, purpose uint8) api.Page {
	need(within(int(purpose), api.PurposeCredit, api.PurposeMarket), api.ErrArg)
	need(isRecord(w.Records, record), api.ErrNone)
	counting := w.counting()
	p := api.Page{Records: w.fileOf(record)}
	for _, o := range w.Owners {
		if slices.Contains(p.Records, o.Record) {
			p.Lines = append(p.Lines, w.line(counting, o.Account))
		}
	}
	p.Frozen, p.Alert = w.state(p.Records[0])
	for _, id := range p.Records {
		l, _ := inquiry.Traces(w.Gate, w.Inquiries, id, w.Day, purpose)
		p.Traces = append(p.Traces, l...)
	}
	return p
}

// line returns what is shown of an account, with the marks of its facts.
func (w *work) line(counting []api.Report, account int) api.Line {
	x := api.Line{Account: account, View: w.view(counting, account)}
	for _, id := range x.View.Shown {
		mark, _ := dispute.Mark(w.Desk, id, w.Day)
		x.Marks = append(x.Marks, mark)
	}
	return x
}
