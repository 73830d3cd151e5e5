package tape

import (
	"strconv"
	"strings"

	"goodname/account"
	"goodname/api"
	"goodname/lines"
)

const (
	sealPrime = 9973
	maxEnd    = 999999 // of the numbers of a last line
)

// seal is the sum of the lines until now, of which a tape's end tells the remainder.
type seal struct{ lines, sum int }

// next goes on by a line, with its line feed.
func (s *seal) next(line string) {
	s.lines++
	add := func(b byte) { s.sum += s.lines * int(b) }
	for i := range len(line) {
		add(line[i])
	}
}

// tape is a tape at work: its seal, its format, and the reports of its lines until
// now.
type tape struct {
	seal
	format
	reports []api.Report
	ended   bool
}

// read reads a text.
func read(text string) *tape {
	need(len(text) <= api.MaxTape, 0, api.ErrLong)
	t := &tape{}
	for line, rest := range lines.Of(text) {
		t.read(line, rest == "")
		t.next(line)
	}
	t.need(t.ended, api.ErrLine)
	return t
}

// need passes on the error of the line after those until now, unless something is
// so.
func (t *tape) need(is bool, e api.Errno) { need(is, t.lines+1, e) }

// read reads one line more, which is the last one of the text or not.
func (t *tape) read(line string, last bool) {
	line, ok := strings.CutSuffix(line, "\n")
	t.need(ok, api.ErrLine)
	switch {
	case t.lines == 0:
		t.begin(line)
	case strings.HasPrefix(line, "="):
		t.need(last && isEnd(line), api.ErrLine)
		t.need(line == t.end(), api.ErrSeal)
		t.ended = true
	default:
		t.add(line)
	}
}

// begin reads the first line.
func (t *tape) begin(line string) {
	l := formats()
	f, ok := find(l[:], func(f format) bool { return f.head() == line })
	t.need(ok, api.ErrLine)
	t.format = f
}

// add reads the line of a report. What is written of the report has to be this line,
// byte for byte: signs, noughts at the beginning, and all else that a number could
// be read from are seen so.
func (t *tape) add(line string) {
	r := t.row(line).report()
	l := append(t.reports, r)
	t.need(account.Check(l) == api.OK && t.has(r), api.ErrLine)
	t.need(t.line(rowOf(r)) == line, api.ErrLine)
	t.reports = l
}

// end returns the last line.
func (t *tape) end() string { return endOf(len(t.reports), t.sum%sealPrime) }

func endOf(reports, seal int) string {
	return "=" + strconv.Itoa(reports) + "," + strconv.Itoa(seal)
}

// isEnd tells whether a line is written as a last one, whatever its numbers are. They
// have no noughts at their beginning, in the old age neither: one of these could be
// left out without being seen.
func isEnd(line string) bool {
	reports, seal, _ := strings.Cut(strings.TrimPrefix(line, "="), ",")
	a, b := number(reports), number(seal)
	return line == endOf(a, b) && min(a, b) >= 0 && max(a, b) <= maxEnd
}
