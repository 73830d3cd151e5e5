package account

import (
	"slices"

	"goodname/api"
	"goodname/order"
)

// facts are those of one account that stand, by About.
type facts []api.Report

// dayOfSource is a day about which a source tells of payments.
type dayOfSource struct{ day, source int }

func (f facts) ofKind(kind uint8) facts {
	var out facts
	for _, r := range f {
		if r.Kind == kind {
			out = append(out, r)
		}
	}
	return out
}

// ids returns the facts' Ids in increasing order.
func (f facts) ids() []int {
	var out []int
	for _, r := range order.By(slices.Values(f), idOf) {
		out = append(out, r.Id)
	}
	return out
}

// together returns all facts as one list.
func (f facts) together() []facts { return []facts{f} }

// byDay returns the facts about each day as a list of their own.
func (f facts) byDay() []facts {
	var out []facts
	for i, r := range f {
		if i == 0 || f[i-1].About != r.About {
			out = append(out, nil)
		}
		out[len(out)-1] = append(out[len(out)-1], r)
	}
	return out
}

// latest returns the facts about the last day.
func (f facts) latest() facts {
	days := f.byDay()
	if len(days) == 0 {
		return nil
	}
	return days[len(days)-1]
}

// agree tells whether all facts tell the same of the same day.
func (f facts) agree() bool {
	other := func(r api.Report) bool { return r.About != f[0].About || r.Cents != f[0].Cents }
	return !slices.ContainsFunc(f, other)
}

// paid returns the sum, over all days, of the least and of the greatest of the
// sums that sources tell of a day.
func (f facts) paid() api.Span {
	sums := map[dayOfSource]int{}
	for _, r := range f {
		sums[dayOfSource{r.About, r.Source}] += r.Cents
	}
	days := map[int]api.Span{}
	for at, sum := range sums {
		s, ok := days[at.day]
		if !ok {
			s = api.Span{Lo: sum, Hi: sum}
		}
		days[at.day] = api.Span{Lo: min(s.Lo, sum), Hi: max(s.Hi, sum)}
	}
	var total api.Span
	for _, s := range days {
		total.Lo += s.Lo
		total.Hi += s.Hi
	}
	return total
}

// sumsAgree tells whether the sources tell the same sums of payments.
func (f facts) sumsAgree() bool {
	s := f.paid()
	return s.Lo == s.Hi
}
