package tape

import (
	"strconv"
	"strings"

	"goodname/api"
)

// row is a report as a tape tells it: its Kind is a number like all others, as it
// may be read from more digits than a Kind has.
type row struct {
	api.Report
	kind int
}

func rowOf(r api.Report) row { return row{r, int(r.Kind)} }

func (w row) report() api.Report {
	r := w.Report
	r.Kind = uint8(w.kind)
	return r
}

// field is a number of a report: the letter that tells it, and where it is.
type field struct {
	letter string
	of     func(w *row) *int
}

// fields returns those of a report, in the order of a line.
func fields() [8]field {
	return [...]field{
		{"I", func(w *row) *int { return &w.Id }},
		{"S", func(w *row) *int { return &w.Source }},
		{"A", func(w *row) *int { return &w.Account }},
		{"M", func(w *row) *int { return &w.Made }},
		{"B", func(w *row) *int { return &w.About }},
		{"K", func(w *row) *int { return &w.kind }},
		{"C", func(w *row) *int { return &w.Cents }},
		{"O", func(w *row) *int { return &w.Of }},
	}
}

// number returns a number that is written. What is none is read as some number,
// which is written in another way.
func number(digits string) int {
	n, _ := strconv.Atoi(digits)
	return n
}

// padded returns numbers with so many digits each.
func padded(width int, numbers ...int) string {
	out := ""
	for _, n := range numbers {
		digits := strconv.Itoa(n)
		out += strings.Repeat("0", width-len(digits)) + digits
	}
	return out
}

// cut returns the parts of a line that have these widths, as far as it goes.
func cut(line string, widths ...int) []string {
	var parts []string
	for _, width := range widths {
		n := min(width, len(line))
		parts = append(parts, line[:n])
		line = line[n:]
	}
	return parts
}
