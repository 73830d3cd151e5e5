package clerk

import (
	"math"
	"slices"
	"strings"

	"goodname/api"
	"goodname/file"
	"goodname/inquiry"
	"goodname/match"
)

// record puts a record to the others.
func (w *work) record(n []int) {
	need(len(w.Records) < api.MaxRecords, api.ErrFull)
	slash := strings.LastIndex(w.note, "/")
	need(slash >= 0 && within(n[1], 0, math.MaxUint8) && within(n[4], 0, 1), api.ErrBad)
	r := api.Record{
		Id:     n[0],
		Names:  strings.Split(w.note[:slash], " "),
		Suffix: uint8(n[1]),
		Born:   api.Span{Lo: n[2], Hi: n[3]},
		Number: w.note[slash+1:],
		Twin:   n[4] == 1,
		Stays:  stays(n[5:]),
	}
	need(match.Check(w.Rules, r) == api.OK && !isRecord(w.Records, r.Id), api.ErrBad)
	w.refile(func() { w.Records = append(w.Records, r) })
}

// stays returns those that numbers tell.
func stays(n []int) []api.Stay {
	var l []api.Stay
	for ; len(n) > 0; n = n[ofStay:] {
		l = append(l, api.Stay{Place: n[0], From: n[1], To: n[2]})
	}
	return l
}

func (w *work) merge(n []int) { w.op(api.Op{Id: n[0], Kind: api.OpMerge, A: n[1], B: n[2]}) }

func (w *work) split(n []int) { w.op(api.Op{Id: n[0], Kind: api.OpSplit, A: n[1], B: n[2]}) }

func (w *work) undo(n []int) { w.op(api.Op{Id: n[0], Kind: api.OpUndo, A: n[1]}) }

// op does an op.
func (w *work) op(op api.Op) {
	need(len(w.Ops) < api.MaxOps, api.ErrFull)
	known := op.Kind == api.OpUndo || isRecord(w.Records, op.A) && isRecord(w.Records, op.B)
	l := append(w.Ops, op)
	need(known && file.Check(w.Rules, w.Records, l) == api.OK, api.ErrBad)
	w.needLink(op, l)
	w.refile(func() { w.Ops = l })
}

// needLink sees to it that an op is no merge whose link would be blocked, with all
// ops of a list. The links before it are there without it, too: what is apart when it
// comes is in the files of both already.
func (w *work) needLink(op api.Op, l []api.Op) {
	blocked, _ := file.Blocked(w.Rules, w.Records, l)
	if !slices.Contains(blocked, api.Link{A: op.A, B: op.B, Op: op.Id}) {
		return
	}
	both := append(w.fileOf(op.A), w.fileOf(op.B)...)
	mixed, _ := file.Mixed(w.Rules, w.Records, w.Ops, both)
	refuse("apart", mixed[0][:]...)
}

// files returns the files, each as the Ids of its records in ascending order, in that
// of their own Ids, which are the first ones.
func (w *work) files() [][]int {
	l, _ := file.Files(w.Rules, w.Records, w.Ops)
	return l
}

// fileOf returns the file of a record.
func (w *work) fileOf(record int) []int {
	l := w.files()
	i := slices.IndexFunc(l, func(f []int) bool { return slices.Contains(f, record) })
	return l[i]
}

// refile does what changes files. One that is frozen has to keep its Id, as its
// signals tell it by this Id alone.
func (w *work) refile(change func()) {
	frozen := w.frozen()
	change()
	l := w.files()
	for _, id := range frozen {
		if !slices.ContainsFunc(l, func(f []int) bool { return f[0] == id }) {
			refuse("frozen", id)
		}
	}
}

// frozen returns the Ids of the files that are frozen, in ascending order.
func (w *work) frozen() []int {
	var ids []int
	for _, f := range w.files() {
		if frozen, _ := w.state(f[0]); frozen {
			ids = append(ids, f[0])
		}
	}
	return ids
}

// state tells whether a file is frozen, and has an alert.
func (w *work) state(id int) (frozen, alert bool) {
	frozen, alert, _ = inquiry.State(w.Gate.Signals, id, w.Day)
	return frozen, alert
}
