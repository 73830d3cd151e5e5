package tape_test

import (
	"slices"
	"strings"
	"testing"

	"goodname/api"
)

// wrongTexts are texts that are no tapes, with what is wrong.
func wrongTexts() map[string]told {
	return map[string]told{
		"":                                  {line: 1, e: api.ErrLine},
		"T4\n=0,146\n":                      {line: 1, e: api.ErrLine},
		"T2\n1,70,5,10,8,1,0\n=1,0\n":       {line: 2, e: api.ErrLine},
		"T2\n1,70,5,10,8,1,0,0\n":           {line: 3, e: api.ErrLine},
		"T2\n1,70,5,10,8,1,0,0\n=1,0\n":     {line: 3, e: api.ErrSeal},
		"T2\n=0,143\n":                      {line: 2, e: api.ErrSeal},
		strings.Repeat("T2\n=0,144\n", 900): {e: api.ErrLong},
	}
}

// P11.3: the tape of the same reports in each age.
func TestConvert(t *testing.T) {
	l := []api.Report{greatest(2), fact(1), {Kind: api.RepPaid, Cents: 5}, fact(1)}
	all := append(slices.Clone(l), correction(7, 1), withdrawal(8, 999999))
	for _, from := range ages() {
		for _, to := range ages() {
			for _, l := range [][]api.Report{nil, l, all} {
				if from == api.AgeOld && len(l) == len(all) {
					continue
				}
				got, want := convert(made(t, from, l...), to), writeAgain(l, to)
				if got != (converted{want.text, 0, want.e}) {
					t.Error(from, to, l, got)
				}
			}
		}
	}
}

// P11.3: what is wrong in a tape comes before the age, and of other errors no line is
// told.
func TestErrorsOfConvert(t *testing.T) {
	for _, age := range append(odd(1, 3), ages()...) {
		for text, want := range wrongTexts() {
			if got := convert(text, age); got != (converted{line: want.line, e: want.e}) {
				t.Errorf("%.30q %v", text, got)
			}
		}
	}
	for _, age := range odd(1, 3) {
		for _, l := range [][]api.Report{nil, {fact(1)}, {correction(7, 1)}, facts(1, 60)} {
			if got := convert(made(t, 2, l...), age); got != (converted{e: api.ErrArg}) {
				t.Error(age, l, got)
			}
		}
	}
	for _, r := range []api.Report{correction(7, 1), withdrawal(7, 1)} {
		for _, l := range [][]api.Report{{r}, {fact(1), r}, {r, fact(1)}} {
			for _, from := range []int{2, 3} {
				if got := convert(made(t, from, l...), 1); got != (converted{e: api.ErrAge}) {
					t.Error(from, l, got)
				}
			}
		}
	}
}

// P11.4: those of the first one, and after them those of the second one whose Id none
// of the first one has, as often as they are there.
func TestJoin(t *testing.T) {
	a, b, c, d := fact(4), fact(3), greatest(3), fact(0)
	for i, x := range []struct{ a, b, want []api.Report }{
		{nil, nil, nil},
		{[]api.Report{a}, nil, []api.Report{a}},
		{nil, []api.Report{a}, []api.Report{a}},
		{[]api.Report{a}, []api.Report{b}, []api.Report{a, b}},
		{[]api.Report{b}, []api.Report{a}, []api.Report{b, a}},
		{[]api.Report{a}, []api.Report{a}, []api.Report{a}},
		{[]api.Report{a, b}, []api.Report{b, a}, []api.Report{a, b}},
		{[]api.Report{a, b, c}, []api.Report{d, b}, []api.Report{a, b, c, d}},
		{[]api.Report{a}, []api.Report{d, a, c, b}, []api.Report{a, d, c, b}},
		{[]api.Report{a, a}, []api.Report{a}, []api.Report{a, a}},
		{[]api.Report{a}, []api.Report{a, a}, []api.Report{a}},
		{[]api.Report{a, b, a}, []api.Report{b, c, b, c, c}, []api.Report{a, b, a, c, c, c}},
		{nil, []api.Report{a, a, b}, []api.Report{a, a, b}},
	} {
		for _, first := range ages() {
			for _, second := range ages() {
				for _, age := range ages() {
					got := join(made(t, first, x.a...), made(t, second, x.b...), age)
					if got != (written{text: made(t, age, x.want...)}) {
						t.Error(i, first, second, age, got)
					}
				}
			}
		}
	}
}

// P11.4: errors, in their order.
func TestErrorsOfJoin(t *testing.T) {
	other, change := fact(1), correction(70, 1)
	other.Made++
	wrong := func(l ...api.Report) string { return strings.Replace(made(t, 2, l...), "=", "=9", 1) }
	for i, x := range []struct {
		a, b string
		e    [2]api.Errno // in the age 1, and in one that is none
	}{
		{"x", wrong(), [2]api.Errno{api.ErrLine, api.ErrLine}},
		{wrong(), "x", [2]api.Errno{api.ErrSeal, api.ErrSeal}},
		{wrong(fact(1)), made(t, 2, other), [2]api.Errno{api.ErrSeal, api.ErrSeal}},
		{made(t, 2, fact(1)), wrong(other), [2]api.Errno{api.ErrSeal, api.ErrSeal}},
		{made(t, 2, change), "", [2]api.Errno{api.ErrLine, api.ErrLine}},
		{made(t, 2, fact(1)), made(t, 2, other), [2]api.Errno{api.ErrDiffer, api.ErrArg}},
		{made(t, 2, fact(1), change), made(t, 3, other), [2]api.Errno{api.ErrDiffer, api.ErrArg}},
		{made(t, 2, fact(5), fact(1)), made(t, 3, change, fact(5), other), [2]api.Errno{api.ErrDiffer, api.ErrArg}},
		{made(t, 2, facts(1, 60)...), made(t, 2, append(facts(61, 59), other)...), [2]api.Errno{api.ErrDiffer, api.ErrArg}},
		{made(t, 2, facts(1, 60)...), made(t, 2, fact(60), fact(61)), [2]api.Errno{api.ErrMany, api.ErrArg}},
		{made(t, 2, facts(1, 60)...), made(t, 2, fact(60), change), [2]api.Errno{api.ErrMany, api.ErrArg}},
		{made(t, 2, fact(61)), made(t, 2, facts(1, 60)...), [2]api.Errno{api.ErrMany, api.ErrArg}},
		{made(t, 2, facts(1, 30)...), made(t, 3, facts(30, 31)...), [2]api.Errno{api.OK, api.ErrArg}},
		{made(t, 2, fact(5)), made(t, 2, change), [2]api.Errno{api.ErrAge, api.ErrArg}},
		{made(t, 2, change), made(t, 2, change), [2]api.Errno{api.ErrAge, api.ErrArg}},
		{made(t, 2), made(t, 2), [2]api.Errno{api.OK, api.ErrArg}},
	} {
		if got := join(x.a, x.b, 1); got.e != x.e[0] || got.e != api.OK && got.text != "" {
			t.Error(i, got)
		}
		for _, age := range odd(1, 3) {
			if got := join(x.a, x.b, age); got != (written{e: x.e[1]}) {
				t.Error(i, age, got)
			}
		}
	}
	right := made(t, 2, fact(1))
	for text, want := range wrongTexts() {
		for other, later := range wrongTexts() {
			for _, x := range []struct {
				a, b string
				e    api.Errno
			}{{text, other, want.e}, {text, right, want.e}, {right, other, later.e}} {
				if got := join(x.a, x.b, 9); got != (written{e: x.e}) {
					t.Errorf("%.30q %.30q %v", x.a, x.b, got)
				}
			}
		}
	}
}

// P11.4, ErrDiffer: reports with the same Id do not differ, in any of their fields.
func TestJoinOfOneId(t *testing.T) {
	one := correction(1, 2)
	for i, other := range others(one) {
		a, b := made(t, 2, fact(8), one, fact(9)), made(t, 3, fact(8), other)
		if got := join(a, b, 2); got != (written{e: api.ErrDiffer}) {
			t.Error(i, got)
		}
		if got := join(b, a, 2); got != (written{e: api.ErrDiffer}) {
			t.Error(i, got)
		}
	}
}
