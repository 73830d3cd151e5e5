package clerk_test

import (
	"slices"

	"goodname/api"
	"goodname/clerk"
)

// Bureaus of these tests have records and files from 0 to 15, accounts from 0 to 5,
// reports from 0 to 29, and disputes from 26 on, so that some are in each other's way.
const (
	someRecords  = 16
	someAccounts = 6
	someReports  = 30
)

// start is a bureau on a day from 10 to 15 in which much is told already, and nothing
// is in the log.
func (r random) start() api.Bureau {
	b := api.Bureau{
		Day:   10 + r.Intn(6),
		Rules: api.Rules{Letters: r.Intn(3), Digits: r.Intn(2), Days: r.Intn(8), Together: 1 + r.Intn(3)},
		Code:  r.code(),
		Desk:  api.Desk{Terms: api.Terms{Answer: r.Intn(5), Mark: r.Intn(6), Lately: r.Intn(9)}},
		Gate:  api.Gate{Licences: []api.Licence{licence(900, 1), licence(900, 6), licence(901, 3), {Who: 901, Purpose: 1, From: 14, To: 20}}},
	}
	for _, id := range r.Perm(someRecords)[:r.Intn(8)] {
		b.Records = append(b.Records, r.record(id))
	}
	for account := range someAccounts {
		if r.Intn(5) > 0 {
			b.Homes = append(b.Homes, api.Home{Account: account, Land: 1 + r.Intn(2)})
		}
		if len(b.Records) > 0 && r.Intn(4) > 0 {
			b.Owners = append(b.Owners, api.Owner{Account: account, Record: pick(r, b.Records...).Id})
		}
	}
	for _, id := range r.Perm(someReports)[:r.Intn(12)] {
		b.Desk.Reports = append(b.Desk.Reports, api.Report{Id: id, Source: 70 + r.Intn(2), Account: r.Intn(someAccounts), Made: r.Intn(b.Day + 1), About: r.Intn(b.Day + 3), Kind: pick[uint8](r, 1, 3, 3, 3, 6, 7)})
	}
	for id := range r.Intn(4) {
		b.Gate.Signals = append(b.Gate.Signals, api.Signal{Bureau: 3, Id: id, File: r.Intn(someRecords), Day: r.Intn(b.Day + 1), Kind: pick[uint8](r, 1, 1, 2, 5)})
	}
	for _, id := range r.part(r.Intn(4), 12) {
		b.Inquiries = append(b.Inquiries, api.Inquiry{Id: id, Day: r.Intn(b.Day + 1), Who: pick(r, 900, 900, 901, 903), File: r.Intn(someRecords), Purpose: pick[uint8](r, 1, 1, 3, 6)})
	}
	return b
}

// code has laws of most kinds for the lands 1 and 2, by which facts are forgotten soon.
func (r random) code() api.Code {
	var c api.Code
	for land := 1; land <= 2; land++ {
		for kind := uint8(api.RepOpened); kind <= api.RepClosed; kind++ {
			if r.Intn(6) > 0 {
				c.Laws = append(c.Laws, api.Law{Land: land, Kind: kind, Base: pick[uint8](r, 1, 1, 2, 3), Keep: r.Intn(50)})
			}
		}
	}
	return api.Code{Laws: c.Laws, Stills: []api.Still{{Land: 1, Days: 1 + r.Intn(20), Means: uint8(r.Intn(3))}}}
}

func (r random) record(id int) api.Record {
	x := record(id, pick(r, "LEE ANNA", "LEE ANNA", "LEE ANNE", "LEE A", "LEE ANNA EVE", "FOX MAX"), pick(r, "", "", "111111111", "111111112", "222222222"), 5+r.Intn(4))
	if r.Intn(10) == 0 {
		x.Suffix = uint8(r.Intn(3))
	}
	x.Born.Hi += r.Intn(2) * r.Intn(3)
	x.Twin = r.Intn(15) == 0
	for range r.Intn(3) {
		from := r.Intn(10)
		x.Stays = append(x.Stays, api.Stay{Place: r.Intn(2), From: from, To: from + r.Intn(8)})
	}
	return x
}

// flag is 0 or 1, or, now and then, none of them.
func (r random) flag() int { return pick(r, 0, 0, 0, 0, 0, 1, 1, 1, 1, pick(r, 0, 1, 2, -1, 257)) }

// act is a command for a bureau, which in most cases is done.
func (r random) act(b api.Bureau) act {
	file := r.fileOf(b)
	switch r.Intn(20) {
	case 0:
		return do("DAY", b.Day+pick(r, -1, 0, 1, 1, 1, 1, 1, 1, 2, 2, 2, 3, 3, 400, r.near(9)))
	case 1, 2:
		return r.actRecord(r.near(someRecords))
	case 3, 4:
		return do("MERGE", r.near(40), r.near(someRecords), r.near(someRecords))
	case 5, 6:
		a, c := r.pairOf(b)
		return do("SPLIT", r.near(40), a, c)
	case 7, 8:
		return do("UNDO", r.near(60), r.opOf(b))
	case 9:
		return do("OWN", r.near(someAccounts+2), r.near(someRecords))
	case 10:
		return r.actReport()
	case 11, 12:
		return do("DISPUTE", someReports-4+r.near(24), r.reportOf(b))
	case 13, 14:
		return do("ANSWER", r.near(50), r.disputeOf(b), pick(r, 1, 1, 1, 3, 0, 4, 257), 0, 0)
	case 15:
		return do("ANSWER", r.near(50), r.disputeOf(b), 2, r.near(20), r.near(3))
	case 16, 17:
		kind := pick(r, 1, 1, 1, 1, 2, 3, 4, 4, 4, 5, r.near(300))
		until := 0
		if kind == api.SignalLift || kind == api.SignalAlert {
			until = b.Day + r.near(10) - 1
		}
		return do("SIGNAL", r.near(4), r.near(9), file, kind, until)
	}
	who := pick(r, 900, 900, 900, 901, 903, file)
	return do("ASK", r.near(40), who, file, pick(r, 1, 1, 1, 3, 5, 6, 6, r.near(300)), r.flag())
}

// pageOf are the records of some file of a bureau, if it has one.
func (r random) pageOf(b api.Bureau) []int {
	if len(b.Records) == 0 {
		return nil
	}
	p, _ := clerk.Page(b, pick(r, b.Records...).Id, api.PurposeSelf)
	return p.Records
}

// fileOf is the Id of a file in most cases, or perhaps that of a record, or of none.
func (r random) fileOf(b api.Bureau) int {
	if l := r.pageOf(b); len(l) > 0 && r.Intn(4) > 0 {
		return l[0]
	}
	return r.near(someRecords)
}

// pairOf is two records, of one file in most cases.
func (r random) pairOf(b api.Bureau) (x, y int) {
	l := r.pageOf(b)
	if len(l) < 2 || r.Intn(4) == 0 {
		return r.near(someRecords), r.near(someRecords)
	}
	at := r.part(2, len(l))
	return l[at[0]], l[at[1]]
}

// ofList is the number of one of a list's elements, or perhaps of none.
func ofList[T any](r random, l []T, number func(T) int, n int) int {
	if len(l) > 0 && r.Intn(6) > 0 {
		return number(pick(r, l...))
	}
	return r.near(n)
}

// opOf is a split in most cases, as there are fewer of them than merges.
func (r random) opOf(b api.Bureau) int {
	l := b.Ops
	if r.Intn(4) > 0 {
		l = slices.DeleteFunc(slices.Clone(l), func(x api.Op) bool { return x.Kind != api.OpSplit })
	}
	return ofList(r, l, func(x api.Op) int { return x.Id }, 40)
}

func (r random) reportOf(b api.Bureau) int {
	return ofList(r, b.Desk.Reports, func(x api.Report) int { return x.Id }, someReports)
}

func (r random) disputeOf(b api.Bureau) int {
	return ofList(r, b.Desk.Disputes, func(x api.Dispute) int { return x.Id }, someReports+20)
}

func (r random) actRecord(id int) act {
	x := r.record(0)
	note := ""
	for i, name := range x.Names {
		if i > 0 {
			note += " "
		}
		note += name
	}
	if r.Intn(20) > 0 {
		note += "/" + x.Number
	}
	args := []int{id, pick(r, 0, 0, 0, 0, 0, 0, 0, 0, 1, 2, r.near(300)), x.Born.Lo, x.Born.Hi, r.flag()}
	for _, s := range x.Stays {
		args = append(args, s.Place, s.From, s.To)
	}
	return noted(note, args...)
}

func (r random) actReport() act {
	kind := pick(r, 1, 3, 3, 3, 4, 5, 6, 7, 8, 9, r.near(300))
	x := do("REPORT", r.near(someReports+10), 70+r.Intn(2), r.near(someAccounts), r.near(20), kind, r.near(3), 0)
	switch kind {
	case api.RepOpened, api.RepClosed:
		x.Args[5] = 0
	case api.RepWithdraw:
		x.Args[3], x.Args[5] = 0, 0
	}
	if kind >= api.RepCorrect {
		x.Args[6] = r.near(someReports)
	}
	return x
}
