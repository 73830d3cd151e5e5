package clerk_test

import (
	"fmt"
	"maps"
	"math"
	"regexp"
	"slices"
	"strconv"
	"strings"

	"goodname/account"
	"goodname/api"
	"goodname/dispute"
	"goodname/file"
	"goodname/inquiry"
	"goodname/match"
	"goodname/term"
)

// commandAgain tells a word with how many numbers it has by a pattern: words and
// numbers, with a comma behind each one.
var commandAgain = regexp.MustCompile(`^(DAY,(n,){1}|RECORD,(n,){5}((n,){3}){0,6}|(MERGE|SPLIT),(n,){3}|(UNDO|OWN|DISPUTE),(n,){2}|REPORT,(n,){7}|(ANSWER|SIGNAL|ASK),(n,){5})$`)

var noteAgain = regexp.MustCompile(`^[A-Z0-9 /]{0,200}$`)

func (x act) knownAgain() bool {
	fits := commandAgain.MatchString(x.Word + "," + strings.Repeat("n,", min(len(x.Args), 99)))
	return fits && (x.Note == "" || x.Word == "RECORD")
}

func (x act) toldAgain() bool {
	for _, n := range x.Args {
		if n > 1000000000000 || n < -1000000000000 {
			return false
		}
	}
	return noteAgain.MatchString(x.Note)
}

// validAgain tells again whether a bureau is valid.
func validAgain(b api.Bureau) bool {
	_, count := inquiry.Count(b.Gate, b.Inquiries, 0, b.Day)
	errors := []api.Errno{file.Check(b.Rules, b.Records, b.Ops), term.Check(b.Code, b.Homes), dispute.Check(b.Desk), inquiry.Check(b.Gate), count}
	if slices.Max(errors) != api.OK || b.Day < 0 || b.Day > 100000 || len(b.Owners) > 40 || len(b.Log) > 200 {
		return false
	}
	last := -1
	for _, o := range b.Owners {
		if o.Account <= last || o.Account > 999999 || !hasAgain(b, o.Record) {
			return false
		}
		last = o.Account
	}
	days := []int{0}
	for _, x := range b.Desk.Reports {
		days = append(days, x.Made)
	}
	for _, x := range b.Desk.Disputes {
		days = append(days, x.Day)
	}
	for _, x := range b.Desk.Answers {
		days = append(days, x.Day)
	}
	for _, x := range b.Gate.Signals {
		days = append(days, x.Day)
	}
	for _, x := range b.Inquiries {
		days = append(days, x.Day)
	}
	logged := []int{0}
	for _, x := range b.Log {
		if a := (act{x.Word, x.Args, x.Note}); !a.knownAgain() || !a.toldAgain() {
			return false
		}
		logged = append(logged, x.Day)
	}
	return slices.Max(days) <= b.Day && slices.Max(logged) <= b.Day && slices.IsSorted(logged)
}

func hasAgain(b api.Bureau, id int) bool {
	for _, r := range b.Records {
		if r.Id == id {
			return true
		}
	}
	return false
}

// filesAgain are the files by their Ids.
func filesAgain(b api.Bureau) map[int][]int {
	out := map[int][]int{}
	l, _ := file.Files(b.Rules, b.Records, b.Ops)
	for _, f := range l {
		out[slices.Min(f)] = f
	}
	return out
}

func fileAgain(b api.Bureau, record int) []int {
	for _, f := range filesAgain(b) {
		if slices.Contains(f, record) {
			return f
		}
	}
	return nil
}

// lostAgain tells the least file that is frozen and is there no more.
func lostAgain(b, next api.Bureau) (string, bool) {
	left := filesAgain(next)
	for _, id := range slices.Sorted(maps.Keys(filesAgain(b))) {
		frozen, _, _ := inquiry.State(b.Gate.Signals, id, b.Day)
		if frozen && left[id] == nil {
			return fmt.Sprint("frozen ", id), true
		}
	}
	return "", false
}

// doAgain tells again what Do answers.
func doAgain(b api.Bureau, x act) done {
	switch {
	case !validAgain(b):
		return done{e: api.ErrBureau}
	case !x.knownAgain():
		return done{e: api.ErrWord}
	case !x.toldAgain():
		return done{e: api.ErrArg}
	case len(b.Log) == 200:
		return done{e: api.ErrFull}
	}
	got := map[string]func(api.Bureau, []int, string) done{
		"DAY": dayAgain, "RECORD": recordAgain, "MERGE": mergeAgain, "SPLIT": splitAgain, "UNDO": undoAgain, "OWN": ownAgain,
		"REPORT": reportAgain, "DISPUTE": disputeAgain, "ANSWER": answerAgain, "SIGNAL": signalAgain, "ASK": askAgain,
	}[x.Word](deep(b), x.Args, x.Note)
	if got.e != api.OK {
		return done{said: got.said, e: got.e}
	}
	got.next.Log = append(got.next.Log, api.Entry{Day: got.next.Day, Word: x.Word, Args: x.Args, Note: x.Note})
	return got
}

func dayAgain(b api.Bureau, n []int, _ string) done {
	if n[0] > 100000 || n[0] <= b.Day {
		return done{e: api.ErrBad}
	}
	b.Day = n[0]
	return done{next: b}
}

func recordAgain(b api.Bureau, n []int, note string) done {
	parts := strings.Split(note, "/")
	k := len(parts) - 1
	r := api.Record{Id: n[0], Names: strings.Split(strings.Join(parts[:k], "/"), " "), Suffix: uint8(n[1]), Born: api.Span{Lo: n[2], Hi: n[3]}, Twin: n[4] == 1, Number: parts[k]}
	for i := 5; i < len(n); i += 3 {
		r.Stays = append(r.Stays, api.Stay{Place: n[i], From: n[i+1], To: n[i+2]})
	}
	next := b
	next.Records = append(slices.Clip(b.Records), r)
	switch {
	case len(b.Records) >= 24:
		return done{e: api.ErrFull}
	case n[4] != 0 && n[4] != 1, n[1] != int(r.Suffix), k == 0, match.Check(b.Rules, r) != api.OK, hasAgain(b, n[0]):
		return done{e: api.ErrBad}
	}
	return changedAgain(b, next)
}

// changedAgain is a bureau with other files.
func changedAgain(b, next api.Bureau) done {
	if said, lost := lostAgain(b, next); lost {
		return done{said: said, e: api.ErrDoubt}
	}
	return done{next: next}
}

func mergeAgain(b api.Bureau, n []int, _ string) done {
	return opAgain(b, api.Op{Id: n[0], Kind: api.OpMerge, A: n[1], B: n[2]}, n[1:])
}

func splitAgain(b api.Bureau, n []int, _ string) done {
	return opAgain(b, api.Op{Id: n[0], Kind: api.OpSplit, A: n[1], B: n[2]}, n[1:])
}

func undoAgain(b api.Bureau, n []int, _ string) done {
	return opAgain(b, api.Op{Id: n[0], Kind: api.OpUndo, A: n[1]}, nil)
}

func opAgain(b api.Bureau, op api.Op, records []int) done {
	next := b
	next.Ops = append(slices.Clip(b.Ops), op)
	if len(b.Ops) >= 40 {
		return done{e: api.ErrFull}
	}
	for _, id := range records {
		if !hasAgain(b, id) {
			return done{e: api.ErrBad}
		}
	}
	blocked, e := file.Blocked(b.Rules, b.Records, next.Ops)
	if e != api.OK {
		return done{e: api.ErrBad}
	}
	for _, k := range blocked {
		if op.Kind == api.OpMerge && k.Op == op.Id {
			mixed, _ := file.Mixed(b.Rules, b.Records, b.Ops, slices.Concat(fileAgain(b, op.A), fileAgain(b, op.B)))
			return done{said: fmt.Sprint("apart ", mixed[0][0], " ", mixed[0][1]), e: api.ErrDoubt}
		}
	}
	return changedAgain(b, next)
}

func ownAgain(b api.Bureau, n []int, _ string) done {
	taken := slices.ContainsFunc(b.Owners, func(o api.Owner) bool { return o.Account == n[0] })
	switch {
	case len(b.Owners) >= 40:
		return done{e: api.ErrFull}
	case n[0] < 0, n[0] > 999999, taken, !hasAgain(b, n[1]):
		return done{e: api.ErrBad}
	}
	b.Owners = append(b.Owners, api.Owner{Account: n[0], Record: n[1]})
	slices.SortFunc(b.Owners, func(x, y api.Owner) int { return x.Account - y.Account })
	return done{next: b}
}

func reportAgain(b api.Bureau, n []int, _ string) done {
	r := api.Report{Id: n[0], Source: n[1], Account: n[2], Made: b.Day, About: n[3], Kind: uint8(n[4]), Cents: n[5], Of: n[6]}
	if len(b.Desk.Reports) >= 60 {
		return done{e: api.ErrFull}
	}
	if int(r.Kind) != n[4] || account.Check([]api.Report{r}) != api.OK {
		return done{e: api.ErrBad}
	}
	for _, other := range b.Desk.Reports {
		if r.Id == other.Id && r != other {
			return done{said: "differs", e: api.ErrDoubt}
		}
	}
	b.Desk.Reports = append(b.Desk.Reports, r)
	if dispute.Check(b.Desk) != api.OK {
		return done{e: api.ErrBad}
	}
	return done{next: b}
}

func disputeAgain(b api.Bureau, n []int, _ string) done {
	next := b
	next.Desk.Disputes = append(slices.Clip(b.Desk.Disputes), api.Dispute{Id: n[0], Report: n[1], Day: b.Day})
	if len(b.Desk.Disputes) >= 20 {
		return done{e: api.ErrFull}
	}
	if dispute.Check(next.Desk) != api.OK {
		return done{e: api.ErrBad}
	}
	least := math.MaxInt
	due, _ := dispute.Due(b.Desk, b.Day)
	for _, x := range b.Desk.Disputes {
		if x.Report == n[1] && slices.Contains(due, x.Id) {
			least = min(least, x.Id)
		}
	}
	if least < math.MaxInt {
		return done{said: fmt.Sprint("open ", least), e: api.ErrDoubt}
	}
	counting, e := dispute.Follow(b.Desk, b.Day)
	if e != api.OK {
		return done{e: api.ErrFull}
	}
	for _, r := range b.Desk.Reports {
		if v, _ := term.Show(b.Code, b.Homes, counting, r.Account, b.Day); r.Id == n[1] && slices.Contains(v.Shown, n[1]) {
			return done{next: next}
		}
	}
	return done{said: "hidden", e: api.ErrDoubt}
}

func answerAgain(b api.Bureau, n []int, _ string) done {
	next := b
	next.Desk.Answers = append(slices.Clip(b.Desk.Answers), api.Answer{Id: n[0], Dispute: n[1], Day: b.Day, Says: uint8(n[2]), About: n[3], Cents: n[4]})
	due, _ := dispute.Due(b.Desk, b.Day)
	switch {
	case len(b.Desk.Answers) >= 40:
		return done{e: api.ErrFull}
	case n[2] < 0, n[2] > 255, dispute.Check(next.Desk) != api.OK:
		return done{e: api.ErrBad}
	case !slices.Contains(due, n[1]):
		return done{said: "late", e: api.ErrDoubt}
	}
	return done{next: next}
}

func signalAgain(b api.Bureau, n []int, _ string) done {
	if len(b.Gate.Signals) >= 40 {
		return done{e: api.ErrFull}
	}
	s := api.Signal{Bureau: n[0], Id: n[1], File: n[2], Day: b.Day, Kind: uint8(n[3]), Until: n[4]}
	twice := slices.ContainsFunc(b.Gate.Signals, func(x api.Signal) bool { return x.Bureau == s.Bureau && x.Id == s.Id })
	if n[3] < 0 || n[3] > 255 || inquiry.Check(api.Gate{Signals: []api.Signal{s}}) != api.OK || twice || !hasAgain(b, s.File) {
		return done{e: api.ErrBad}
	}
	b.Gate.Signals = append(b.Gate.Signals, s)
	slices.SortFunc(b.Gate.Signals, func(x, y api.Signal) int { return 1000000*(x.Bureau-y.Bureau) + x.Id - y.Id })
	return namedAgain(b, s.File)
}

// namedAgain is a bureau in which something names a file by the Id of a record.
func namedAgain(b api.Bureau, id int) done {
	if _, ok := filesAgain(b)[id]; !ok {
		return done{said: fmt.Sprint("file ", slices.Min(fileAgain(b, id))), e: api.ErrDoubt}
	}
	return done{next: b}
}

func askAgain(b api.Bureau, n []int, _ string) done {
	if len(b.Inquiries) >= 40 {
		return done{e: api.ErrFull}
	}
	q := api.Inquiry{Id: n[0], Day: b.Day, Who: n[1], File: n[2], Purpose: uint8(n[3]), Called: n[4] == 1}
	became, e := inquiry.Ask(b.Gate, q)
	twice := slices.ContainsFunc(b.Inquiries, func(x api.Inquiry) bool { return x.Id == q.Id })
	if n[3] < 0 || n[3] > 255 || n[4] < 0 || n[4] > 1 || e != api.OK || twice || !hasAgain(b, q.File) {
		return done{e: api.ErrBad}
	}
	b.Inquiries = append(b.Inquiries, q)
	slices.SortFunc(b.Inquiries, func(x, y api.Inquiry) int { return x.Id - y.Id })
	got := namedAgain(b, q.File)
	if got.e == api.OK {
		got.said = map[uint8]string{0: "told", 1: "purpose", 2: "frozen", 3: "alert"}[became]
	}
	return got
}

// replayAgain tells again what Replay answers.
func replayAgain(b api.Bureau, log []api.Entry) replayed {
	if !validAgain(b) {
		return replayed{e: api.ErrBureau}
	}
	for i, x := range log {
		got := doAgain(b, act{x.Word, x.Args, x.Note})
		if got.e != api.OK {
			return replayed{at: i, said: got.said, e: got.e}
		}
		if b = got.next; b.Day != x.Day {
			return replayed{at: i, e: api.ErrBad}
		}
	}
	return replayed{next: b}
}

// pageAgain tells again what Page answers.
func pageAgain(b api.Bureau, id int, purpose uint8) paged {
	counting, full := dispute.Follow(b.Desk, b.Day)
	switch {
	case !validAgain(b):
		return paged{e: api.ErrBureau}
	case purpose == 0 || purpose > 6:
		return paged{e: api.ErrArg}
	case !hasAgain(b, id):
		return paged{e: api.ErrNone}
	case full != api.OK:
		return paged{e: api.ErrFull}
	}
	p := api.Page{Records: fileAgain(b, id)}
	p.Frozen, p.Alert, _ = inquiry.State(b.Gate.Signals, slices.Min(p.Records), b.Day)
	for _, record := range p.Records {
		l, _ := inquiry.Traces(b.Gate, b.Inquiries, record, b.Day, purpose)
		p.Traces = append(p.Traces, l...)
	}
	for _, o := range b.Owners {
		if !slices.Contains(p.Records, o.Record) {
			continue
		}
		x := api.Line{Account: o.Account}
		x.View, _ = term.Show(b.Code, b.Homes, counting, o.Account, b.Day)
		for i := range x.View.Shown {
			mark, _ := dispute.Mark(b.Desk, x.View.Shown[i], b.Day)
			x.Marks = append(x.Marks, mark)
		}
		p.Lines = append(p.Lines, x)
	}
	return paged{page: p}
}

// The patterns of a text's lines, in which ~ stands for a number that is written.
var (
	rowAgain = patternAgain(`^~;(DAY;~;|RECORD;~(,~){4}((,~){3}){0,6};[A-Z0-9 /]{0,200}|(MERGE|SPLIT);~(,~){2};|(UNDO|OWN|DISPUTE);~,~;|REPORT;~(,~){6};|(ANSWER|SIGNAL|ASK);~(,~){4};)$`)
	endAgain = patternAgain(`^#(0|[1-9][0-9]*);(0|[1-9][0-9]*)$`)
	digits   = regexp.MustCompile(`-?[0-9]+`)
)

func patternAgain(p string) *regexp.Regexp {
	return regexp.MustCompile(strings.ReplaceAll(p, "~", `(?:0|-?[1-9][0-9]*)`))
}

// sizeAgain tells whether all numbers of a text are such as may be told.
func sizeAgain(text string) bool {
	for _, s := range digits.FindAllString(text, -1) {
		if n, e := strconv.Atoi(s); e != nil || n > 1000000000000 || n < -1000000000000 {
			return false
		}
	}
	return true
}

// ended puts the right last line behind a text.
func ended(text string) string {
	sum := 0
	for i := range len(text) {
		sum += (i + 1) * int(text[i])
	}
	return fmt.Sprintf("%s#%d;%d\n", text, strings.Count(text, "\n"), sum)
}

// writeAgain tells again what WriteLog answers.
func writeAgain(log []api.Entry) written {
	text := ""
	for i, x := range log {
		a := act{x.Word, x.Args, x.Note}
		if i == 200 || !a.knownAgain() || !a.toldAgain() || !sizeAgain(fmt.Sprint(x.Day)) {
			return written{e: api.ErrArg}
		}
		text += fmt.Sprintf("%d;%s;%s;%s\n", x.Day, x.Word, strings.ReplaceAll(strings.Trim(fmt.Sprint(x.Args), "[]"), " ", ","), x.Note)
	}
	if text = ended(text); len(text) > 30000 {
		return written{e: api.ErrFull}
	}
	return written{text: text}
}

// readAgain tells again what ReadLog answers.
func readAgain(text string) told {
	if len(text) > 30000 {
		return told{e: api.ErrFull}
	}
	l := strings.SplitAfter(text, "\n")
	if l[len(l)-1] == "" {
		l = l[:len(l)-1]
	}
	var got told
	for i, line := range l {
		row, whole := strings.CutSuffix(line, "\n")
		switch {
		case i == len(l)-1 && whole && endAgain.MatchString(row) && sizeAgain(row):
			if strings.Join(l, "") != ended(strings.Join(l[:i], "")) {
				return told{line: i + 1, e: api.ErrEnd}
			}
			return got
		case i == 200 || !whole || !isRowAgain(row):
			return told{line: i + 1, e: api.ErrRow}
		}
		got.log = append(got.log, entryAgain(row))
	}
	return told{line: len(l) + 1, e: api.ErrRow}
}

// isRowAgain looks at the numbers before the note alone: a note may have many digits.
func isRowAgain(row string) bool {
	return rowAgain.MatchString(row) && sizeAgain(row[:strings.LastIndex(row, ";")])
}

func entryAgain(row string) api.Entry {
	parts := strings.Split(row, ";")
	x := api.Entry{Word: parts[1], Note: parts[3]}
	x.Day, _ = strconv.Atoi(parts[0])
	for _, s := range strings.Split(parts[2], ",") {
		n, _ := strconv.Atoi(s)
		x.Args = append(x.Args, n)
	}
	return x
}
