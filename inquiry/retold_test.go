package inquiry_test

import (
	"slices"

	"goodname/api"
)

// What follows tells again, as directly as can be, what the chapter defines.

// isLater puts the day, the bureau and the number of a signal into one number.
func isLater(a, b api.Signal) bool {
	place := func(s api.Signal) int { return (s.Day*10+s.Bureau)*1000000 + s.Id }
	return place(a) > place(b)
}

// isLatest tells whether a signal is the latest one of those of its file of two
// kinds that have at most a day.
func isLatest(l []api.Signal, s api.Signal, day int, a, b uint8) bool {
	for _, x := range l {
		if x.File == s.File && x.Day <= day && (x.Kind == a || x.Kind == b) && isLater(x, s) {
			return false
		}
	}
	return s.Day <= day && (s.Kind == a || s.Kind == b)
}

// isOpened tells whether a lift that is later than a freeze opens its file on a day.
func isOpened(l []api.Signal, freeze api.Signal, day int) bool {
	for _, x := range l {
		if x.File == freeze.File && x.Kind == 3 && isLater(x, freeze) && x.Day <= day && day <= x.Until {
			return true
		}
	}
	return false
}

func isFrozen(l []api.Signal, file, day int) bool {
	for _, s := range l {
		if s.File == file && s.Kind == 1 && isLatest(l, s, day, 1, 2) && !isOpened(l, s, day) {
			return true
		}
	}
	return false
}

func hasAlert(l []api.Signal, file, day int) bool {
	for _, s := range l {
		if s.File == file && s.Kind == 4 && isLatest(l, s, day, 4, 5) && s.Until >= day {
			return true
		}
	}
	return false
}

// mayAsk tells whether an inquiry has a purpose: a licence, or it is the person's
// own.
func mayAsk(g api.Gate, q api.Inquiry) bool {
	if q.Purpose == 5 {
		return q.Who == q.File
	}
	for _, x := range g.Licences {
		if x.Who == q.Who && x.Purpose == q.Purpose && x.From <= q.Day && q.Day <= x.To {
			return true
		}
	}
	return false
}

func becameAgain(g api.Gate, q api.Inquiry) uint8 {
	p := q.Purpose
	if !mayAsk(g, q) {
		return 1
	}
	if isFrozen(g.Signals, q.File, q.Day) && (p == 1 || p == 3 || p == 6) {
		return 2
	}
	if hasAlert(g.Signals, q.File, q.Day) && (p == 6 || p == 1 && !q.Called) {
		return 3
	}
	return 0
}

// tracesAgain goes through all days, and on each one through the inquiries.
func tracesAgain(g api.Gate, l []api.Inquiry, file, day int, purpose uint8) []api.Trace {
	var out []api.Trace
	for d := max(day-730, 0); d <= day; d++ {
		for _, q := range l {
			became := becameAgain(g, q)
			if q.File != file || q.Day != d {
				continue
			}
			if purpose == 5 || became == 0 && q.Purpose == 1 && d+365 >= day {
				out = append(out, api.Trace{Inquiry: q.Id, Who: q.Who, Day: d, Purpose: q.Purpose, Became: became})
			}
		}
	}
	return out
}

// daysAgain are the days of the traces that are shown for credit.
func daysAgain(w world) []int {
	var days []int
	for _, x := range tracesAgain(w.g, w.l, w.file, w.day, 1) {
		days = append(days, x.Day)
	}
	return days
}

// countAgain goes through all days: who counts is not near the last one that did.
func countAgain(days []int) int {
	n := 0
	for next := 0; ; n++ {
		i := slices.IndexFunc(days, func(d int) bool { return d >= next })
		if i < 0 {
			return n
		}
		next = days[i] + 15
	}
}

// mergeAgain takes both lists together, and of two that are the same one.
func mergeAgain(a, b []api.Signal) merged {
	out := slices.Clone(a)
	for _, s := range b {
		i := slices.IndexFunc(a, func(x api.Signal) bool { return x.Bureau == s.Bureau && x.Id == s.Id })
		if i < 0 {
			out = append(out, s)
		} else if a[i] != s {
			return merged{e: 91}
		}
	}
	if len(out) > 40 {
		return merged{e: 4}
	}
	return merged{l: sorted(out...)}
}
