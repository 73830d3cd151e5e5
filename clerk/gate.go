package clerk

import (
	"math"

	"goodname/api"
	"goodname/inquiry"
	"goodname/order"
)

// becomes is what is said of inquiries.
var becomes = [...]string{
	api.AskTold:    "told",
	api.AskPurpose: "purpose",
	api.AskFrozen:  "frozen",
	api.AskAlert:   "alert",
}

// signal takes a signal of a file.
func (w *work) signal(n []int) {
	need(len(w.Gate.Signals) < api.MaxSignals, api.ErrFull)
	need(within(n[3], 0, math.MaxUint8), api.ErrBad)
	s := api.Signal{Bureau: n[0], Id: n[1], File: n[2], Day: w.Day, Kind: uint8(n[3]), Until: n[4]}
	w.Gate.Signals = placed(w.Gate.Signals, s, func(other api.Signal) bool {
		return order.Compare(other, s, bureauOf, idOf) > 0
	})
	need(inquiry.Check(w.Gate) == api.OK, api.ErrBad)
	w.needFile(s.File)
}

func bureauOf(s api.Signal) int { return s.Bureau }
func idOf(s api.Signal) int     { return s.Id }

// ask keeps an inquiry for a file, and says what becomes of it.
func (w *work) ask(n []int) {
	need(len(w.Inquiries) < api.MaxInquiries, api.ErrFull)
	need(within(n[3], 0, math.MaxUint8) && within(n[4], 0, 1), api.ErrBad)
	q := api.Inquiry{Id: n[0], Day: w.Day, Who: n[1], File: n[2], Purpose: uint8(n[3]), Called: n[4] == 1}
	w.Inquiries = placed(w.Inquiries, q, func(other api.Inquiry) bool { return other.Id > q.Id })
	// Count needs all inquiries to be valid, this one and no two with one Id.
	_, e := inquiry.Count(w.Gate, w.Inquiries, 0, w.Day)
	need(e == api.OK, api.ErrBad)
	w.needFile(q.File)
	became, _ := inquiry.Ask(w.Gate, q)
	w.said = becomes[became]
}

// needFile sees to it that an Id is that of a file. A record is not asked for by
// another Id than that of its file, under which it was frozen.
func (w *work) needFile(id int) {
	need(isRecord(w.Records, id), api.ErrBad)
	if file := w.fileOf(id)[0]; file != id {
		refuse("file", file)
	}
}
