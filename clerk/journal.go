package clerk

import (
	"strconv"
	"strings"

	"goodname/api"
	"goodname/lines"
)

// journal is a text of a log until some line: how many lines and bytes it has, and
// the sum of these, each one times its place.
type journal struct{ lines, bytes, sum int }

// next goes on by a line, with its line feed.
func (j *journal) next(line string) {
	j.lines++
	for i := range len(line) {
		j.bytes++
		j.sum += j.bytes * int(line[i])
	}
}

// end returns the last line.
func (j journal) end() string { return endOf(j.lines, j.sum) }

func endOf(lines, sum int) string { return "#" + written(";", lines, sum) + "\n" }

// isEnd tells whether a line is written as a last one, whatever its numbers are.
func isEnd(line string) bool {
	before, after, _ := strings.Cut(strings.TrimSuffix(strings.TrimPrefix(line, "#"), "\n"), ";")
	a, b := number(before), number(after)
	return line == endOf(a, b) && within(a, 0, api.MaxTold) && within(b, 0, api.MaxTold)
}

// number returns a number that is written. What is none is read as some number,
// which is written in another way.
func number(digits string) int {
	n, _ := strconv.Atoi(digits)
	return n
}

// lineOf returns the line of an entry.
func lineOf(x api.Entry) string {
	return strings.Join([]string{strconv.Itoa(x.Day), x.Word, written(",", x.Args...), x.Note}, ";") + "\n"
}

// entryOf returns the entry of a line, and whether it is one, byte for byte.
func entryOf(line string) (x api.Entry, ok bool) {
	parts := strings.Split(strings.TrimSuffix(line, "\n"), ";")
	if len(parts) != 4 {
		return api.Entry{}, false
	}
	x = api.Entry{Day: number(parts[0]), Word: parts[1], Note: parts[3]}
	for _, digits := range strings.Split(parts[2], ",") {
		x.Args = append(x.Args, number(digits))
	}
	return x, isEntry(x) && line == lineOf(x)
}

// isEntry tells whether an entry may be in a log, which needs not be a bureau's.
func isEntry(x api.Entry) bool { return isTold(x.Day) && isCommand(x) }

// write returns the text of a log.
func write(log []api.Entry) string {
	need(len(log) <= api.MaxEntries, api.ErrArg)
	text, j := "", journal{}
	for _, x := range log {
		need(isEntry(x), api.ErrArg)
		line := lineOf(x)
		text += line
		j.next(line)
	}
	text += j.end()
	need(len(text) <= api.MaxJournal, api.ErrFull)
	return text
}

// reader is a journal that is read.
type reader struct {
	journal
	log   []api.Entry
	ended bool
}

// read returns the log with a text.
func read(text string) []api.Entry {
	need(len(text) <= api.MaxJournal, api.ErrFull)
	r := &reader{}
	for line, rest := range lines.Of(text) {
		r.read(line, rest == "")
		r.next(line)
	}
	r.need(r.ended, api.ErrRow)
	return r.log
}

// need passes on the error of the line after those until now, unless something is
// so.
func (r *reader) need(is bool, e api.Errno) {
	if !is {
		panic(wrong{r.lines + 1, e})
	}
}

// read reads one line more, which is the last one of the text or not.
func (r *reader) read(line string, last bool) {
	if strings.HasPrefix(line, "#") {
		r.need(last && isEnd(line), api.ErrRow)
		r.need(line == r.end(), api.ErrEnd)
		r.ended = true
		return
	}
	x, ok := entryOf(line)
	r.need(ok && r.lines < api.MaxEntries, api.ErrRow)
	r.log = append(r.log, x)
}
