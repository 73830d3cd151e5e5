package tape

import (
	"strconv"
	"strings"

	"goodname/account"
	"goodname/api"
	"goodname/lines"
)

// format is how tapes of an age are written: up to which Kind reports have a line,
// and how a row is written, and read again. What row makes of a line that is not
// one means nothing: who reads has to see that it is written in another way.
type format struct {
	age  int
	last uint8
	line func(w row) string
	row  func(line string) row
}

func formats() [3]format {
	return [...]format{
		{api.AgeOld, api.RepClosed, oldLine, oldRow},
		{api.AgeRows, api.RepWithdraw, rowsLine, rowsRow},
		{api.AgeTags, api.RepWithdraw, tagsLine, tagsRow},
	}
}

// inAge returns the format of an age.
func inAge(age int) format {
	l := formats()
	f, ok := find(l[:], func(f format) bool { return f.age == age })
	need(ok, 0, api.ErrArg)
	return f
}

// head returns the first line of tapes.
func (f format) head() string { return "T" + strconv.Itoa(f.age) }

// has tells whether tapes have a line for a report.
func (f format) has(r api.Report) bool { return r.Kind <= f.last }

// write returns the tape of reports.
func (f format) write(l []api.Report) string {
	e := account.Check(l)
	need(e == api.OK, 0, e)
	text := f.head() + "\n"
	for _, r := range l {
		need(f.has(r), 0, api.ErrAge)
		text += f.line(rowOf(r)) + "\n"
	}
	t := tape{reports: l}
	for line := range lines.Of(text) {
		t.next(line)
	}
	return text + t.end() + "\n"
}

func oldLine(w row) string {
	return padded(6, w.Id, w.Source, w.Account, w.Made, w.About) + padded(1, w.kind) + padded(13, w.Cents)
}

func oldRow(line string) row { return rowOfParts(cut(line, 6, 6, 6, 6, 6, 1, 13)) }

func rowsLine(w row) string {
	var parts []string
	for _, f := range fields() {
		parts = append(parts, strconv.Itoa(*f.of(&w)))
	}
	return strings.Join(parts, ",")
}

func rowsRow(line string) row { return rowOfParts(strings.Split(line, ",")) }

// rowOfParts returns a row of the numbers of its first fields.
func rowOfParts(parts []string) row {
	var w row
	for i, f := range fields() {
		if i < len(parts) {
			*f.of(&w) = number(parts[i])
		}
	}
	return w
}

func tagsLine(w row) string {
	var parts []string
	for _, f := range fields() {
		if n := *f.of(&w); n != 0 {
			parts = append(parts, f.letter+strconv.Itoa(n))
		}
	}
	return strings.Join(parts, " ")
}

func tagsRow(line string) row {
	var w row
	parts := strings.Split(line, " ")
	for _, f := range fields() {
		part, _ := find(parts, func(p string) bool { return strings.HasPrefix(p, f.letter) })
		*f.of(&w) = number(strings.TrimPrefix(part, f.letter))
	}
	return w
}
