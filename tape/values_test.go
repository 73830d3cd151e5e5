package tape_test

import (
	"fmt"
	"math"
	"slices"
	"strings"
	"testing"

	"goodname/api"
)

// spoilLine changes something of a line.
func (r random) spoilLine(line string) string {
	at := r.Intn(len(line) + 1)
	before, after := line[:at], line[at:]
	some := pick(r, "0", "1", "9", "=", ",", " ", "-", "+", "\n", "\r", "I", "K", "T", "\x00", "\xff", "00", "999999", "18446744073709551616")
	switch r.Intn(4) {
	case 0:
		return before + some + after
	case 1:
		return before + after[min(1, len(after)):]
	case 2:
		return before + some + after[min(1, len(after)):]
	}
	return before
}

// spoilLines changes something of lines.
func (r random) spoilLines(l []string) []string {
	l = slices.Clone(l)
	at := r.Intn(len(l))
	switch r.Intn(7) {
	case 0:
		return slices.Delete(l, at, at+1)
	case 1:
		return slices.Insert(l, at, pick(r, l...))
	case 2:
		l[at] = pick(r, l...)
	case 3:
		return mixedUp(r, l)
	case 4:
		return slices.Insert(l, at, pick(r, "", "=0,0", "K1", "0,0,0,0,0,1,0,0", "T2", "=", "x"))
	default:
		l[at] = r.spoilLine(l[at])
	}
	return l
}

// text is a tape, or one of which a bit is changed; its seal is a right one, or not.
func (r random) text(t *testing.T) string {
	t.Helper()
	text := r.tape(t, pick(r, r.Intn(6), r.Intn(6), r.Intn(6), r.Intn(61)), pick(r, ages()...))
	switch r.Intn(8) {
	case 0:
		return text
	case 1:
		return r.spoilLine(text)
	case 2:
		l := strings.Split(text, "\n")
		return strings.Join(r.spoilLines(l), "\n")
	}
	l := linesOf(text)
	for range 1 + r.Intn(2) {
		if l = r.spoilLines(l); len(l) == 0 {
			return ""
		}
	}
	return sealed(l...)
}

// any is a text that has not much of a tape.
func (r random) any() string {
	l := make([]byte, pick(r, r.Intn(10), r.Intn(300), 8000, 8001))
	letters := pick(r, "T123\n=,0", "=0123456789,\n", "ISAMBKCO 0123\n", "\x00\xff\x80\n")
	for i := range l {
		l[i] = letters[r.Intn(len(letters))]
	}
	return pick(r, "", "T1\n", "T2\n", "T3\n") + string(l)
}

// R1, R2, R5 and R7: whatever texts are, each call ends, none panics, and beside an
// error is nothing.
func TestAnyTexts(t *testing.T) {
	r := newRandom(10)
	seen := map[string]int{}
	for i := range 30000 {
		a, b, age := r.text(t), r.text(t), pick(r, 1, 1, 2, 2, 3, 3, 0, 4, -1, math.MinInt, math.MaxInt)
		switch i % 10 {
		case 0:
			a = r.any()
		case 1, 2, 3:
			b = r.tape(t, r.Intn(5), pick(r, ages()...))
		}
		one, two, three := read(a), convert(a, age), join(a, b, age)
		if want := readAgain(a); !same(one, want) {
			t.Fatalf("%q %v %v", a, one, want)
		}
		if want := convertAgain(a, age); two != want {
			t.Fatalf("%q %d %v %v", a, age, two, want)
		}
		if want := joinAgain(a, b, age); three != want {
			t.Fatalf("%q %q %d %v %v", a, b, age, three, want)
		}
		for k, e := range []api.Errno{one.e, two.e, three.e} {
			seen[fmt.Sprint(k, " ", int(e))]++
		}
	}
	for _, x := range []string{"0 0", "0 111", "0 112", "0 113", "1 0", "1 2", "1 110", "1 111", "1 112", "2 0", "2 2", "2 31", "2 110", "2 111", "2 112"} {
		if seen[x] < 50 {
			t.Error("too few", x, seen)
		}
	}
}

// spoil writes any number to one field of a report.
func (r random) spoil(x *api.Report) {
	if r.Intn(8) == 0 {
		x.Kind = pick[uint8](r, 0, 1, 7, 8, 9, 10, 127, 128, 255)
		return
	}
	*pick(r, &x.Id, &x.Source, &x.Account, &x.Made, &x.About, &x.Cents, &x.Of) = pick(r, -1, 0, 1, 7, api.MaxDay, api.MaxDay+1, api.MaxId, api.MaxId+1, api.MaxMoney, api.MaxMoney+1, math.MinInt, math.MaxInt, 1<<32+1)
}

// R1, R2, R5 and R7: whatever reports and ages are, the same.
func TestAnyReports(t *testing.T) {
	r := newRandom(11)
	seen := map[api.Errno]int{}
	for range 20000 {
		l := r.reports(pick(r, 1+r.Intn(5), 1+r.Intn(61), 60, 61), pick[uint8](r, 7, 7, 9))
		for range r.Intn(3) {
			r.spoil(&l[r.Intn(len(l))])
		}
		age := pick(r, 1, 1, 1, 2, 3, 0, 4, -1, math.MinInt, math.MaxInt)
		got, want := write(l, age), writeAgain(l, age)
		if got != want {
			t.Fatal(l, age, got, want)
		}
		seen[got.e]++
	}
	for _, e := range []api.Errno{api.OK, api.ErrArg, api.ErrMany, api.ErrReport, api.ErrDiffer, api.ErrAge} {
		if seen[e] < 100 {
			t.Error("too few", e, seen)
		}
	}
}

// R3: no argument is written to, nor what is behind the last element of a list, and
// that does not count.
func TestArgumentsAreNotWrittenTo(t *testing.T) {
	r := newRandom(12)
	for range 500 {
		l := r.reports(2+r.Intn(50), 9)
		n := r.Intn(len(l))
		before := slices.Clone(l)
		for _, age := range ages() {
			want := write(slices.Clone(l[:n]), age)
			for range 2 {
				if got := write(l[:n], age); got != want {
					t.Fatal(l, n, age, got, want)
				}
			}
		}
		if !slices.Equal(l, before) {
			t.Fatal("written to", before, l)
		}
	}
}

// R3: results share no memory, and no call remembers another one.
func TestResultsShareNoMemory(t *testing.T) {
	r := newRandom(13)
	for range 500 {
		text := r.tape(t, 1+r.Intn(60), pick(r, ages()...))
		want, first := read(text), read(text)
		l := first.l[:cap(first.l)]
		for i := range l {
			l[i] = api.Report{Id: -77}
		}
		read(r.text(t))
		join(text, text, 2)
		if got := read(text); !same(got, want) {
			t.Fatal(text, got, want)
		}
	}
}

// R4: lists that are nil and that are empty are the same.
func TestNilAndEmpty(t *testing.T) {
	for _, age := range ages() {
		some := facts(1, 3)
		for _, l := range [][]api.Report{nil, {}, some[:0]} {
			text := made(t, age, l...)
			if got := read(text); text != sealed(fmt.Sprint("T", age)) || len(got.l) != 0 || got.age != age || got.e != api.OK {
				t.Error(age, l, text, got)
			}
		}
	}
}
