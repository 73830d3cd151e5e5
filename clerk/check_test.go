package clerk_test

import (
	"fmt"
	"math"
	"strings"
	"testing"

	"goodname/api"
	"goodname/clerk"
)

// change is done to a bureau before it is checked.
type change func(b *api.Bureau)

// checked changes the town, and looks whether all functions with a bureau answer
// ErrBureau, and nothing else, or none of them does.
func checked(t *testing.T, name string, valid bool, f change) {
	t.Helper()
	b := town()
	f(&b)
	if e := clerk.Check(b); (e == api.OK) != valid || !valid && e != api.ErrBureau {
		t.Error(name, e)
	}
	// All arguments are wrong, so that ErrBureau comes first, or not at all.
	x, y, z := do("", 1).to(b), replay(b, []api.Entry{{}}), page(b, -1, 0)
	if valid {
		if !x.is("", api.ErrWord) || !same(y, replayed{e: api.ErrWord}) || !same(z, paged{e: api.ErrArg}) {
			t.Error(name, x, y, z)
		}
		return
	}
	if !x.is("", api.ErrBureau) || !same(y, replayed{e: api.ErrBureau}) || !same(z, paged{e: api.ErrBureau}) {
		t.Error(name, x, y, z)
	}
}

// P12.1: the bureau is valid as it is, and so is one with nothing but rules.
func TestCheckOfValidBureaus(t *testing.T) {
	checked(t, "town", true, func(*api.Bureau) {})
	checked(t, "nothing", true, func(b *api.Bureau) { *b = api.Bureau{Rules: api.Rules{Together: 1}} })
	checked(t, "no rules", false, func(b *api.Bureau) { *b = api.Bureau{} })
	if e := clerk.Check(example()); e != api.OK {
		t.Error(e)
	}
}

// P12.1: a bureau's day is from 0 to MaxDay.
func TestCheckOfDay(t *testing.T) {
	bare := func(day int) change {
		return func(b *api.Bureau) { *b = api.Bureau{Day: day, Rules: b.Rules} }
	}
	for _, day := range []int{0, 1, api.MaxDay} {
		checked(t, fmt.Sprint("day ", day), true, bare(day))
	}
	for _, day := range append(odd(0, api.MaxDay), huge()...) {
		checked(t, fmt.Sprint("day ", day), false, bare(day))
	}
}

// P12.1: a bureau is valid if all parts of it are, by their layers.
func TestCheckOfParts(t *testing.T) {
	for name, f := range map[string]change{
		"rules":          func(b *api.Bureau) { b.Rules.Together = 0 },
		"a record":       func(b *api.Bureau) { b.Records[1].Names = nil },
		"a record twice": func(b *api.Bureau) { b.Records[1].Id = 30 },
		"25 records": func(b *api.Bureau) {
			b.Records = many(25, func(i int) api.Record { return record(i+25, "LEE", "", 1) })
		},
		"an op":               func(b *api.Bureau) { b.Ops = []api.Op{{Id: 1, Kind: api.OpMerge, A: 20, B: 20}} },
		"an undo of nothing":  func(b *api.Bureau) { b.Ops = []api.Op{{Id: 2, Kind: api.OpUndo, A: 1}} },
		"a law":               func(b *api.Bureau) { b.Code.Laws[0].Base = 0 },
		"laws":                func(b *api.Bureau) { b.Code.Laws[1].Kind = api.RepOwed },
		"a still":             func(b *api.Bureau) { b.Code.Stills = []api.Still{{Land: 1, Days: 0}} },
		"homes":               func(b *api.Bureau) { b.Homes[1].Account = 5 },
		"terms":               func(b *api.Bureau) { b.Desk.Terms.Mark = -1 },
		"a report":            func(b *api.Bureau) { b.Desk.Reports[0].Kind = 0 },
		"reports that differ": func(b *api.Bureau) { b.Desk.Reports[1].Id = 101 },
		"a dispute":           func(b *api.Bureau) { b.Desk.Disputes = []api.Dispute{{Id: 200, Report: 100, Day: 45}} },
		"an early dispute":    func(b *api.Bureau) { b.Desk.Disputes = []api.Dispute{{Id: 200, Report: 101, Day: 24}} },
		"an answer":           func(b *api.Bureau) { b.Desk.Answers = []api.Answer{{Id: 1, Dispute: 200, Day: 45, Says: 1}} },
		"a licence":           func(b *api.Bureau) { b.Gate.Licences[0].Purpose = api.PurposeSelf },
		"a signal":            func(b *api.Bureau) { b.Gate.Signals = []api.Signal{{Bureau: 10, Kind: api.SignalFreeze}} },
		"an inquiry":          func(b *api.Bureau) { b.Inquiries = []api.Inquiry{{Id: 1}} },
		"inquiries":           func(b *api.Bureau) { b.Inquiries = []api.Inquiry{{Id: 2, Purpose: 1}, {Id: 1, Purpose: 1}} },
		"41 inquiries": func(b *api.Bureau) {
			b.Inquiries = many(41, func(i int) api.Inquiry { return api.Inquiry{Id: i, Purpose: 1} })
		},
	} {
		checked(t, name, false, f)
	}
	for name, f := range map[string]change{
		"24 records": func(b *api.Bureau) {
			b.Owners, b.Records = nil, many(24, func(i int) api.Record { return record(i, "LEE", "", 1) })
		},
		"an op on strangers": func(b *api.Bureau) { b.Ops = []api.Op{{Id: 1, Kind: api.OpMerge, A: 1, B: 2}} },
		"a dispute":          func(b *api.Bureau) { b.Desk.Disputes = []api.Dispute{{Id: 200, Report: 101, Day: 45}} },
		"a late licence":     func(b *api.Bureau) { b.Gate.Licences[0].From = 60 },
		"a signal on no one": func(b *api.Bureau) { b.Gate.Signals = []api.Signal{{File: 7, Day: 50, Kind: api.SignalFreeze}} },
		"40 inquiries": func(b *api.Bureau) {
			b.Inquiries = many(40, func(i int) api.Inquiry { return api.Inquiry{Id: i, Purpose: 1} })
		},
		"no homes": func(b *api.Bureau) { b.Homes = nil },
	} {
		checked(t, name, true, f)
	}
}

// P12.1: owners are at most 40, by increasing accounts, each with a record.
func TestCheckOfOwners(t *testing.T) {
	put := func(l ...api.Owner) change { return func(b *api.Bureau) { b.Owners = l } }
	crowd := func(n int) change {
		return put(many(n, func(i int) api.Owner { return api.Owner{Account: 10 * i, Record: 20} })...)
	}
	for i, f := range []change{put(), put(api.Owner{Account: 0, Record: 10}, api.Owner{Account: 1, Record: 10}, api.Owner{Account: api.MaxId, Record: 50}), crowd(40)} {
		checked(t, fmt.Sprint("owners ", i), true, f)
	}
	wrong := []change{
		put(api.Owner{Account: 5, Record: 10}, api.Owner{Account: 5, Record: 10}),
		put(api.Owner{Account: 5, Record: 10}, api.Owner{Account: 5, Record: 20}),
		put(api.Owner{Account: 6, Record: 10}, api.Owner{Account: 5, Record: 20}),
		put(api.Owner{Account: 1, Record: 10}, api.Owner{Account: 7, Record: 20}, api.Owner{Account: 5, Record: 20}),
		put(api.Owner{Account: 5, Record: 0}),
		put(api.Owner{Account: 5, Record: 11}),
		put(api.Owner{Account: 5, Record: 10}, api.Owner{Account: 6, Record: -1}),
		crowd(41),
	}
	for _, n := range append(odd(0, api.MaxId), huge()...) {
		wrong = append(wrong, put(api.Owner{Account: n, Record: 10}))
	}
	for i, f := range wrong {
		checked(t, fmt.Sprint("wrong owners ", i), false, f)
	}
}

// P12.1: nothing of a bureau is from a later day, but for the days until which
// something is, and licences.
func TestCheckOfLaterDays(t *testing.T) {
	for _, day := range []int{49, 50, 51, 60, 1000} {
		dispute := api.Dispute{Id: 200, Report: 101, Day: 45}
		for name, f := range map[string]change{
			"a report":     func(b *api.Bureau) { b.Desk.Reports[0].Made = day },
			"the last one": func(b *api.Bureau) { b.Desk.Reports[2].Made = day },
			"a dispute":    func(b *api.Bureau) { b.Desk.Disputes = []api.Dispute{{Id: 200, Report: 101, Day: day}} },
			"two disputes": func(b *api.Bureau) { b.Desk.Disputes = []api.Dispute{dispute, {Id: 201, Report: 101, Day: day}} },
			"an answer": func(b *api.Bureau) {
				b.Desk.Disputes, b.Desk.Answers = []api.Dispute{dispute}, []api.Answer{{Id: 1, Dispute: 200, Day: day, Says: 1}}
			},
			"a signal":   func(b *api.Bureau) { b.Gate.Signals = []api.Signal{{File: 7, Day: day, Kind: api.SignalFreeze}} },
			"an inquiry": func(b *api.Bureau) { b.Inquiries = []api.Inquiry{{Id: 1, Day: day, Purpose: 1}} },
		} {
			checked(t, fmt.Sprint(name, day), day <= 50, f)
		}
	}
	checked(t, "later things", true, func(b *api.Bureau) {
		b.Desk.Reports[0].About = 60
		b.Gate.Signals = []api.Signal{{File: 7, Day: 50, Kind: api.SignalLift, Until: 90}}
	})
}

// P12.1: a log has at most 200 entries, which are commands, on days that do not go
// back.
func TestCheckOfLog(t *testing.T) {
	day := func(n int) api.Entry { return api.Entry{Day: n, Word: "DAY", Args: []int{5}} }
	put := func(l ...api.Entry) change { return func(b *api.Bureau) { b.Log = l } }
	for i, f := range []change{
		put(), put(day(0), day(0), day(7), day(7), day(50)), put(day(50)),
		put(many(200, func(int) api.Entry { return day(5) })...),
		put(api.Entry{Day: 3, Word: "MERGE", Args: []int{-7, 0, api.MaxTold}}),
	} {
		checked(t, fmt.Sprint("log ", i), true, f)
	}
	wrong := []change{
		put(day(51)), put(day(-1)), put(day(7), day(6)), put(day(1), day(9), day(9), day(8)), put(day(50), day(51)), put(day(math.MinInt)), put(day(math.MaxInt)),
		put(many(201, func(int) api.Entry { return day(5) })...),
		put(api.Entry{}, day(5)),
	}
	for i, f := range wrong {
		checked(t, fmt.Sprint("wrong log ", i), false, f)
	}
	for i, x := range entries() {
		checked(t, fmt.Sprint("entry ", i, x.entry), x.valid, put(day(0), x.entry, day(50)))
	}
}

// judged is an entry, and whether it is a command.
type judged struct {
	entry api.Entry
	valid bool
}

// entries are some with each word, as many numbers as there may be, and notes, right
// and wrong.
func entries() []judged {
	var out []judged
	for word, numbers := range map[string][]int{
		"DAY": {1}, "RECORD": {5, 8, 11, 14, 17, 20, 23}, "MERGE": {3}, "SPLIT": {3}, "UNDO": {2}, "OWN": {2}, "REPORT": {7}, "DISPUTE": {2}, "ANSWER": {5}, "SIGNAL": {5}, "ASK": {5},
		"": nil, "day": nil, "DAYS": nil, "RECORDS": nil, "ASK ": nil, " ASK": nil, "MERGE\n": nil,
	} {
		for n := range 30 {
			fits := false
			for _, k := range numbers {
				fits = fits || k == n
			}
			x := api.Entry{Day: 5, Word: word, Args: make([]int, n)}
			out = append(out, judged{x, fits})
			x.Note = "A"
			out = append(out, judged{x, fits && word == "RECORD"})
			for _, more := range append(huge(), api.MaxTold, -api.MaxTold) {
				if n > 0 {
					args := make([]int, n)
					args[n-1] = more
					out = append(out, judged{api.Entry{Day: 5, Word: word, Args: args}, fits && (more == api.MaxTold || more == -api.MaxTold)})
				}
			}
		}
	}
	for i := range 256 {
		one := string([]byte{byte(i)})
		valid := strings.Contains("ABCDEFGHIJKLMNOPQRSTUVWXYZ0123456789 /", one)
		for _, note := range []string{one, "A" + one + "A", "A" + one, one + "A"} {
			out = append(out, judged{api.Entry{Day: 5, Word: "RECORD", Args: make([]int, 5), Note: note}, valid})
		}
	}
	for _, n := range []int{0, 1, 199, 200, 201, 1000} {
		out = append(out, judged{api.Entry{Day: 5, Word: "RECORD", Args: make([]int, 5), Note: strings.Repeat("/", n)}, n <= 200})
	}
	return out
}
