package clerk

import (
	"slices"

	"goodname/api"
	"goodname/dispute"
	"goodname/term"
)

// work is a bureau at work. It is valid before and after each command, so that no
// layer has an error for it, but for what is asked of layer 5 by counting.
type work struct {
	api.Bureau
	note, said string // of the command
}

// open returns a bureau at work, which is a copy.
func open(b api.Bureau) *work {
	need(bureauValid(b), api.ErrBureau)
	return &work{Bureau: copied(b)}
}

// copied returns a bureau that shares no memory with another one.
func copied(b api.Bureau) api.Bureau {
	b.Records = slices.Clone(b.Records)
	for i, r := range b.Records {
		b.Records[i].Names, b.Records[i].Stays = slices.Clone(r.Names), slices.Clone(r.Stays)
	}
	b.Ops = slices.Clone(b.Ops)
	b.Code = api.Code{Laws: slices.Clone(b.Code.Laws), Stills: slices.Clone(b.Code.Stills)}
	b.Homes = slices.Clone(b.Homes)
	b.Owners = slices.Clone(b.Owners)
	b.Desk.Reports = slices.Clone(b.Desk.Reports)
	b.Desk.Disputes = slices.Clone(b.Desk.Disputes)
	b.Desk.Answers = slices.Clone(b.Desk.Answers)
	b.Gate = api.Gate{Licences: slices.Clone(b.Gate.Licences), Signals: slices.Clone(b.Gate.Signals)}
	b.Inquiries = slices.Clone(b.Inquiries)
	b.Log = slices.Clone(b.Log)
	for i, x := range b.Log {
		b.Log[i].Args = slices.Clone(x.Args)
	}
	return b
}

// do does the command of an entry, and puts it at the end of the log.
func (w *work) do(x api.Entry) {
	need(isKnown(x), api.ErrWord)
	need(isSayable(x), api.ErrArg)
	need(len(w.Log) < api.MaxEntries, api.ErrFull)
	w.note = x.Note
	commands()[x.Word].do(w, x.Args)
	x.Day, x.Args = w.Day, slices.Clone(x.Args)
	w.Log = append(w.Log, x)
}

// turn goes on to a day.
func (w *work) turn(n []int) {
	need(within(n[0], w.Day+1, api.MaxDay), api.ErrBad)
	w.Day = n[0]
}

// own tells whose an account is.
func (w *work) own(n []int) {
	need(len(w.Owners) < api.MaxOwners, api.ErrFull)
	o := api.Owner{Account: n[0], Record: n[1]}
	l := placed(w.Owners, o, func(other api.Owner) bool { return other.Account > o.Account })
	need(ownersValid(l, w.Records), api.ErrBad)
	w.Owners = l
}

// placed returns a list with one thing more, in its place before the first one that
// comes after it.
func placed[T any](l []T, x T, after func(other T) bool) []T {
	at := slices.IndexFunc(l, after)
	if at < 0 {
		at = len(l)
	}
	return slices.Insert(l, at, x)
}

// counting returns the reports that count.
func (w *work) counting() []api.Report {
	l, e := dispute.Follow(w.Desk, w.Day)
	need(e == api.OK, api.ErrFull)
	return l
}

// view returns what is shown of an account, by the reports that count.
func (w *work) view(counting []api.Report, account int) api.View {
	v, _ := term.Show(w.Code, w.Homes, counting, account, w.Day)
	return v
}
