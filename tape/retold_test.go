package tape_test

import (
	"fmt"
	"regexp"
	"slices"
	"strconv"
	"strings"

	"goodname/account"
	"goodname/api"
)

// What follows tells again, as directly as can be, what the chapter defines.

// numbersOf are those of a report, in the order of a line.
func numbersOf(r api.Report) [8]int {
	return [8]int{r.Id, r.Source, r.Account, r.Made, r.About, int(r.Kind), r.Cents, r.Of}
}

func lineAgain(r api.Report, age int) string {
	n := numbersOf(r)
	switch age {
	case 1:
		return fmt.Sprintf("%06d%06d%06d%06d%06d%01d%013d", n[0], n[1], n[2], n[3], n[4], n[5], n[6])
	case 2:
		return fmt.Sprintf("%d,%d,%d,%d,%d,%d,%d,%d", n[0], n[1], n[2], n[3], n[4], n[5], n[6], n[7])
	}
	line := ""
	for i, letter := range "ISAMBKCO" {
		if n[i] != 0 {
			line += fmt.Sprintf(" %c%d", letter, n[i])
		}
	}
	return strings.TrimPrefix(line, " ")
}

func writeAgain(l []api.Report, age int) written {
	if age < 1 || age > 3 {
		return written{e: 2}
	}
	if e := account.Check(l); e != 0 {
		return written{e: e}
	}
	lines := []string{fmt.Sprint("T", age)}
	for _, r := range l {
		if age == 1 && r.Kind >= 8 {
			return written{e: 110}
		}
		lines = append(lines, lineAgain(r, age))
	}
	return written{text: sealed(lines...)}
}

// patterns tell how lines are written: that of a report in each age, and the last one.
var patterns = [...]*regexp.Regexp{
	regexp.MustCompile(`\A=(0|[1-9][0-9]{0,5}),(0|[1-9][0-9]{0,5})\z`),
	regexp.MustCompile(`\A([0-9]{6})([0-9]{6})([0-9]{6})([0-9]{6})([0-9]{6})([1-7])([0-9]{13})()\z`),
	regexp.MustCompile(`\A` + strings.Repeat(`(0|[1-9][0-9]*),`, 7) + `(0|[1-9][0-9]*)\z`),
	regexp.MustCompile(`\A(?:I([1-9][0-9]*) )?(?:S([1-9][0-9]*) )?(?:A([1-9][0-9]*) )?(?:M([1-9][0-9]*) )?(?:B([1-9][0-9]*) )?K([1-9][0-9]*)(?: C([1-9][0-9]*))?(?: O([1-9][0-9]*))?\z`),
}

// reportAgain reads a line by its pattern. A number that is too great for any report
// is one that no report has.
func reportAgain(line string, age int) (r api.Report, ok bool) {
	parts := patterns[age].FindStringSubmatch(line)
	if parts == nil {
		return r, false
	}
	var n [8]int
	for i, part := range parts[1:] {
		if part == "" {
			continue
		}
		var e error
		if n[i], e = strconv.Atoi(part); e != nil {
			return r, false
		}
	}
	r = api.Report{Id: n[0], Source: n[1], Account: n[2], Made: n[3], About: n[4], Kind: uint8(n[5]), Cents: n[6], Of: n[7]}
	return r, n[5] <= 9 && account.Check([]api.Report{r}) == 0
}

// readAgain looks at one line after the other.
func readAgain(text string) told {
	if len(text) > 8000 {
		return told{e: 113}
	}
	all := strings.SplitAfter(text, "\n")
	var out told
	for i, line := range all {
		wrong := told{line: i + 1, e: 111}
		body, ok := strings.CutSuffix(line, "\n")
		switch {
		case !ok:
			return wrong
		case i == 0:
			if body != "T1" && body != "T2" && body != "T3" {
				return wrong
			}
			out.age = int(body[1] - '0')
		case strings.HasPrefix(body, "="):
			rest := strings.Join(all[i+1:], "")
			if rest != "" || !patterns[0].MatchString(body) {
				return wrong
			}
			if text != sealed(linesOf(text)...) {
				wrong.e = 112
				return wrong
			}
			return out
		default:
			r, ok := reportAgain(body, out.age)
			if !ok || len(out.l) == 60 || slices.ContainsFunc(out.l, func(x api.Report) bool { return x.Id == r.Id && x != r }) {
				return wrong
			}
			out.l = append(out.l, r)
		}
	}
	panic("no line")
}

func convertAgain(text string, age int) converted {
	x := readAgain(text)
	if x.e != 0 {
		return converted{line: x.line, e: x.e}
	}
	out := writeAgain(x.l, age)
	return converted{text: out.text, e: out.e}
}

func joinAgain(a, b string, age int) written {
	x, y := readAgain(a), readAgain(b)
	switch {
	case x.e != 0:
		return written{e: x.e}
	case y.e != 0:
		return written{e: y.e}
	case age < 1 || age > 3:
		return written{e: 2}
	}
	first := map[int]api.Report{}
	for _, r := range x.l {
		first[r.Id] = r
	}
	l := x.l
	for _, r := range y.l {
		other, ok := first[r.Id]
		if ok && other != r {
			return written{e: 31}
		}
		if !ok {
			l = append(l, r)
		}
	}
	return writeAgain(l, age)
}
