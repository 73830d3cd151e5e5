package tape_test

import (
	"strings"
	"testing"

	"goodname/api"
)

// P11.1: each kind of reports, with nothing and with the greatest numbers, in each
// age.
func TestLinesOfReports(t *testing.T) {
	for i, x := range []struct {
		r    api.Report
		want [3]string
	}{
		{api.Report{Kind: 1}, [3]string{"000000000000000000000000000000" + "1" + "0000000000000", "0,0,0,0,0,1,0,0", "K1"}},
		{api.Report{Kind: 7}, [3]string{"000000000000000000000000000000" + "7" + "0000000000000", "0,0,0,0,0,7,0,0", "K7"}},
		{greatest(1), [3]string{"999999999999999999100000100000" + "1" + "0000000000000", "999999,999999,999999,100000,100000,1,0,0", "I999999 S999999 A999999 M100000 B100000 K1"}},
		{greatest(2), [3]string{"999999999999999999100000100000" + "2" + "1000000000000", "999999,999999,999999,100000,100000,2,1000000000000,0", "I999999 S999999 A999999 M100000 B100000 K2 C1000000000000"}},
		{greatest(5), [3]string{"999999999999999999100000100000" + "5" + "0000000010000", "999999,999999,999999,100000,100000,5,10000,0", "I999999 S999999 A999999 M100000 B100000 K5 C10000"}},
		{greatest(8), [3]string{"", "999999,999999,999999,100000,100000,8,1000000000000,999998", "I999999 S999999 A999999 M100000 B100000 K8 C1000000000000 O999998"}},
		{greatest(9), [3]string{"", "999999,999999,999999,100000,0,9,0,999998", "I999999 S999999 A999999 M100000 K9 O999998"}},
		{api.Report{Id: 1, Kind: 9}, [3]string{"", "1,0,0,0,0,9,0,0", "I1 K9"}},
		{api.Report{Kind: 8, Of: 3}, [3]string{"", "0,0,0,0,0,8,0,3", "K8 O3"}},
		{api.Report{Id: 10, Source: 200, Account: 3000, Made: 40000, About: 100000, Kind: 3, Cents: 600000}, [3]string{"000010000200003000040000100000" + "3" + "0000000600000", "10,200,3000,40000,100000,3,600000,0", "I10 S200 A3000 M40000 B100000 K3 C600000"}},
		{api.Report{Id: 1, Source: 2, Account: 3, Made: 4, About: 5, Kind: 6, Cents: 7}, [3]string{"000001000002000003000004000005" + "6" + "0000000000007", "1,2,3,4,5,6,7,0", "I1 S2 A3 M4 B5 K6 C7"}},
		{api.Report{Id: 1, Source: 2, Account: 3, Made: 4, About: 5, Kind: 8, Cents: 7, Of: 9}, [3]string{"", "1,2,3,4,5,8,7,9", "I1 S2 A3 M4 B5 K8 C7 O9"}},
	} {
		for k, age := range ages() {
			got := write([]api.Report{x.r}, age)
			if x.want[k] == "" {
				if got != (written{e: api.ErrAge}) {
					t.Error(i, age, got)
				}
				continue
			}
			if want := sealed([]string{"T1", "T2", "T3"}[k], x.want[k]); got != (written{text: want}) {
				t.Error(i, age, got, want)
			}
		}
	}
}

// P11.1: each field is told by itself.
func TestLinesOfTags(t *testing.T) {
	for want, r := range map[string]api.Report{
		"I1 K2": {Id: 1, Kind: 2}, "S1 K2": {Source: 1, Kind: 2}, "A1 K2": {Account: 1, Kind: 2}, "M1 K2": {Made: 1, Kind: 2}, "B1 K2": {About: 1, Kind: 2}, "K2 C1": {Kind: 2, Cents: 1}, "K9 O1": {Kind: 9, Of: 1},
		"S3 M10 K4 C20": {Source: 3, Made: 10, Kind: 4, Cents: 20},
		"A3 B10 K8 O20": {Account: 3, About: 10, Kind: 8, Of: 20},
	} {
		if got := write([]api.Report{r}, api.AgeTags); got != (written{text: sealed("T3", want)}) {
			t.Error(want, got)
		}
	}
}

// The seal, by hand: T, the age and a line feed are 84, 49 to 51 and 10, together 143
// to 145. K, 1 and a line feed are 75, 49 and 10, together 134: times 2 they are 268,
// times 2 and 3 together 670, times 2 to 12 together 10318, and times 2 to 61
// together 253260. With 145 the last two are 10463, which is 9973 and 490, and
// 253405, which is 25 times 9973 and 4080.
func TestSeals(t *testing.T) {
	var many []api.Report
	for range 60 {
		many = append(many, api.Report{Kind: 1})
	}
	for i, x := range []struct {
		l    []api.Report
		age  int
		want string
	}{
		{nil, 1, "=0,143\n"},
		{nil, 2, "=0,144\n"},
		{[]api.Report{}, 3, "=0,145\n"},
		{many[:1], 3, "=1,413\n"},
		{many[:2], 3, "=2,815\n"},
		{many[:11], 3, "=11,490\n"},
		{many, 3, "=60,4080\n"},
	} {
		if text := made(t, x.age, x.l...); !strings.HasSuffix(text, "\n"+x.want) {
			t.Error(i, text)
		}
	}
}

// P11.1: reports are written in the order of the list, each one as often as it is in
// it.
func TestOrderOfReports(t *testing.T) {
	l := []api.Report{fact(7), fact(3), fact(7), fact(0), fact(999999), fact(3)}
	if got, want := made(t, 2, l...), sealed("T2", "7,70,5,10,8,1,0,0", "3,70,5,10,8,1,0,0", "7,70,5,10,8,1,0,0", "0,70,5,10,8,1,0,0", "999999,70,5,10,8,1,0,0", "3,70,5,10,8,1,0,0"); got != want {
		t.Error(got)
	}
}

// P11.1: errors, in their order.
func TestErrorsOfWrite(t *testing.T) {
	wrong, other := fact(1), fact(1)
	wrong.Cents, other.About = 1, 9
	zero := []api.Report{{}}
	for i, x := range []struct {
		l   []api.Report
		age int
		e   api.Errno
	}{
		{facts(1, 60), 1, api.OK},
		{facts(1, 61), 1, api.ErrMany},
		{append(facts(1, 60), fact(1)), 2, api.ErrMany},
		{append(facts(1, 60), wrong, other), 3, api.ErrMany},
		{append(facts(1, 61), correction(3, 4)), 1, api.ErrMany},
		{append(facts(1, 59), wrong), 3, api.ErrReport},
		{[]api.Report{fact(1), other, {}}, 2, api.ErrReport},
		{[]api.Report{correction(3, 4), {}}, 1, api.ErrReport},
		{[]api.Report{correction(3, 3)}, 2, api.ErrReport},
		{zero, 3, api.ErrReport},
		{[]api.Report{fact(1), other}, 3, api.ErrDiffer},
		{[]api.Report{withdrawal(3, 4), correction(3, 4)}, 1, api.ErrDiffer},
		{[]api.Report{withdrawal(3, 4), fact(1), other}, 1, api.ErrDiffer},
		{[]api.Report{correction(3, 4)}, 1, api.ErrAge},
		{[]api.Report{withdrawal(3, 4)}, 1, api.ErrAge},
		{append(facts(10, 59), withdrawal(3, 4)), 1, api.ErrAge},
		{append([]api.Report{correction(3, 4)}, facts(10, 59)...), 1, api.ErrAge},
		{append(facts(10, 59), withdrawal(3, 4)), 2, api.OK},
	} {
		got := write(x.l, x.age)
		if got.e != x.e || x.e != api.OK && got.text != "" {
			t.Error(i, got)
		}
		for _, age := range odd(1, 3) {
			if got := write(x.l, age); got != (written{e: api.ErrArg}) {
				t.Error(i, age, got)
			}
		}
	}
}

// P11.1: all that is written is what is told again.
func TestWriteIsRetold(t *testing.T) {
	r := newRandom(1)
	for range 3000 {
		l := r.reports(r.Intn(61), pick[uint8](r, 7, 7, 9))
		for _, age := range ages() {
			if got, want := write(l, age), writeAgain(l, age); got != want {
				t.Fatal(l, age, got, want)
			}
		}
	}
}
