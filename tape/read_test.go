package tape_test

import (
	"fmt"
	"strings"
	"testing"

	"goodname/api"
)

// P11.2: the reports and the age of a tape, in the order of its lines.
func TestRead(t *testing.T) {
	for i, x := range []struct {
		text string
		want told
	}{
		{sealed("T1"), told{age: 1}},
		{sealed("T3"), told{age: 3}},
		{sealed("T1", "999999000000000450000000100000"+"2"+"1000000000000"), told{age: 1, l: []api.Report{{Id: 999999, Account: 450, About: 100000, Kind: 2, Cents: api.MaxMoney}}}},
		{sealed("T2", "0,0,0,0,0,1,0,0"), told{age: 2, l: []api.Report{{Kind: 1}}}},
		{sealed("T2", "1,2,3,4,5,8,7,9", "1,2,3,4,0,9,0,9"), told{line: 3, e: api.ErrLine}},
		{sealed("T2", "1,2,3,4,5,8,7,9", "0,2,3,4,0,9,0,9"), told{age: 2, l: []api.Report{{Id: 1, Source: 2, Account: 3, Made: 4, About: 5, Kind: 8, Cents: 7, Of: 9}, {Source: 2, Account: 3, Made: 4, Kind: 9, Of: 9}}}},
		{sealed("T3", "I1 S2 A3 M4 B5 K8 C7 O9"), told{age: 3, l: []api.Report{{Id: 1, Source: 2, Account: 3, Made: 4, About: 5, Kind: 8, Cents: 7, Of: 9}}}},
		{sealed("T3", "K3 C10", "K3 C10", "I5 K3"), told{age: 3, l: []api.Report{{Kind: 3, Cents: 10}, {Kind: 3, Cents: 10}, {Id: 5, Kind: 3}}}},
	} {
		if got := read(x.text); !same(got, x.want) {
			t.Error(i, got)
		}
	}
}

// P11.2: a first line is the letter T and an age, and nothing else.
func TestFirstLines(t *testing.T) {
	for _, line := range []string{"", "T", "1", "T0", "T4", "T9", "T:", "T11", "T01", "T 1", "T1 ", " T1", "T1\r", "t1", "U1", "TT1", "T-1", "T+1", "T１", "T1,", "=0,0", "1,70,5,10,8,1,0,0", "K1", "T257", "T4294967297", "T" + strings.Repeat("0", 3000) + "1", "\xef\xbb\xbfT1", "T1\x00"} {
		for _, text := range []string{line + "\n", sealed(line), sealed(line, "K1"), line + "\n\n", "\n" + sealed(line)} {
			if got := read(text); !got.isWrong(1, api.ErrLine) {
				t.Errorf("%q %v", text, got)
			}
		}
	}
	for _, text := range []string{"", "T", "T2", "T2=0,144", "=0,144"} {
		if got := read(text); !got.isWrong(1, api.ErrLine) {
			t.Errorf("%q %v", text, got)
		}
	}
}

// wrongLines are, by ages, lines that are not those of a valid report.
func wrongLines() map[int][]string {
	const (
		five = "000001000070000005000010000008" // Id, Source, Account, Made and About
		none = "0000000000000"
		old  = five + "1" + none
		rows = "1,70,5,10,8,1,0,0"
		tags = "I1 S70 A5 M10 B8 K1"
	)
	l := map[int][]string{
		1: {
			old[:43], old[1:], old + "0", "0" + old, old + "000002", old + "\r", old + " ", " " + old, old + old, five, five + "1", "000001",
			"000001 000070 000005 000010 000008 1 " + none, "000001,000070,000005,000010,000008,1," + none,
			"+" + old[1:], "-" + old[1:], " " + old[1:], "a" + old[1:], "00000a" + old[6:], "000_01" + old[6:], "1     " + old[6:],
			five + "1" + none[1:] + " ", five + "1" + "-" + none[1:], five + "1" + "+" + none[1:], five + "+" + none, five + " " + none, five + "a" + none,
			five + "0" + none, five + "8" + none, five + "9" + none, old[:24] + "000000" + "9" + none,
			old[:18] + "100001" + "000008" + "1" + none, old[:24] + "100001" + "1" + none, five + "2" + "1000000000001", five + "5" + "0000000010001", five + "1" + "0000000000001", five + "7" + "9999999999999",
			rows, tags,
		},
		2: {
			"1,70,5,10,8,1,0", "1,70,5,10,8,1,0,", "1,70,5,10,8,1,0,0,", "1,70,5,10,8,1,0,0,0", ",1,70,5,10,8,1,0,0", ",70,5,10,8,1,0,0", "1,70,,10,8,1,0,0", "1,70,5,10,8,1,,0", "1 70 5 10 8 1 0 0", "1, 70,5,10,8,1,0,0", "1,70,5,10,8,1,0,0 ", " 1,70,5,10,8,1,0,0", "1,70,5,10,8,1,0,0\r", "1;70;5;10;8;1;0;0",
			"01,70,5,10,8,1,0,0", "1,070,5,10,8,1,0,0", "1,70,5,010,8,1,0,0", "1,70,5,10,8,01,0,0", "1,70,5,10,8,1,00,0", "1,70,5,10,8,1,0,00", "+1,70,5,10,8,1,0,0", "1,70,5,10,8,1,+0,0", "1,70,5,10,8,1,-0,0", "-1,70,5,10,8,1,0,0", "1,70,5,10,-8,1,0,0", "1,70,5,10,8,-1,0,0", "1,70,5,10,8,-255,0,0", "0x1,70,5,10,8,1,0,0", "1_0,70,5,10,8,1,0,0", "1e1,70,5,10,8,1,0,0", "1.0,70,5,10,8,1,0,0", "a,70,5,10,8,1,0,0",
			"1,70,5,10,8,0,0,0", "1,70,5,10,8,10,0,0", "1,70,5,10,8,257,0,0", "1,70,5,10,8,4294967297,0,0", "1,70,5,10,8,1,1,0", "1,70,5,10,8,1,0,2", "1,70,5,10,8,8,0,1", "1,70,5,10,8,9,0,2", "1,70,5,10,0,9,0,1", "1,70,5,10,0,9,1,2",
			"1000000,70,5,10,8,1,0,0", "1,1000000,5,10,8,1,0,0", "1,70,1000000,10,8,1,0,0", "1,70,5,100001,8,1,0,0", "1,70,5,10,100001,1,0,0", "1,70,5,10,8,2,1000000000001,0", "1,70,5,10,8,5,10001,0", "1,70,5,10,8,8,0,1000000",
			"18446744073709551617,70,5,10,8,1,0,0", "9223372036854775807,70,5,10,8,1,0,0", "9223372036854775808,70,5,10,8,1,0,0", "1,70,5,10,8,1,-18446744073709551616,0",
			tags, old,
		},
		3: {
			"I1", "S70", "I1 S70 A5 M10 B8", "K", "K0", "K10", "K01", "K+1", "K-1", "K-255", "K257", "k1", "1", "1K", "K1K", "K 1", "K1 ", " K1", "K1\r", "K1,", "K1 0", "K1 K", "K1 K1", "K1  C0", "K1 C0", "K1 O0", "I0 K1", "S0 K1", "A0 K1", "M0 K1", "B0 K1", "I01 K1", "I+1 K1", "I-1 K1", "I K1", "I  K1", "I1  K1", "I1,K1", "I1\tK1", "I1K1",
			"K1 I1", "S1 I1 K1", "A1 S1 K1", "M1 A1 K1", "B1 M1 K1", "K1 B1", "C1 K2", "K2 O0 C1", "O2 K9", "I1 K8 O2 C1", "I1 I1 K1", "I1 I2 K1", "I1 K1 I1", "K2 C1 C1", "X1 K1", "K1 X1", "K1 x", "i1 K1",
			"I1000000 K1", "S1000000 K1", "A1000000 K1", "M100001 K1", "B100001 K1", "K2 C1000000000001", "K5 C10001", "K1 C1", "K1 O1", "K8", "I1 K8 O1", "K9", "I1 K9 O1", "I1 B5 K9 O2", "I1 K9 C5 O2", "I1 K9 O1000000", "I18446744073709551617 K1", "I1 K1 C18446744073709551616",
			rows, old,
		},
	}
	for _, age := range ages() {
		l[age] = append(l[age], "", " ", ",", "\r", "\x00", "T1", "T2", "T3", " =0,0", "-", "#", "0", "é", "\xff", strings.Repeat("0", 3500), strings.Repeat(" ", 3500), strings.Repeat(",", 3500))
	}
	return l
}

// P11.2: of what is not the line of a valid report the number is told, wherever it
// is, and whatever follows.
func TestWrongLines(t *testing.T) {
	for age, l := range wrongLines() {
		right := linesOf(made(t, age, fact(900), fact(901), fact(902)))
		for _, line := range l {
			for n := 2; n <= 4; n++ {
				lines := append([]string{}, right...)
				lines[n-1] = line
				if got := read(sealed(lines...)); !got.isWrong(n, api.ErrLine) {
					t.Errorf("%d %d %q %v", age, n, line, got)
				}
			}
			for _, text := range []string{line, line + "\n", line + "\n=1,0\n", line + "\n" + line + "\n", line + "\nT1\n"} {
				if got := read(right[0] + "\n" + text); text != "" && !got.isWrong(2, api.ErrLine) {
					t.Errorf("%d %q %v", age, text, got)
				}
			}
		}
		if got := read(sealed(right...)); got.e != api.OK {
			t.Error(age, got)
		}
	}
}

// P11.2: each line has a line feed, and one is the last one.
func TestLineFeeds(t *testing.T) {
	for _, age := range ages() {
		text := made(t, age, fact(1), fact(2))
		line := 1
		for i := range len(text) {
			if got := read(text[:i]); !got.isWrong(line, api.ErrLine) {
				t.Error(age, i, got)
			}
			if text[i] == '\n' {
				line++
			}
		}
		for _, more := range []string{"\n", "=", "=2,0", "=2,0\n", "x", " ", "\x00", "\r", "T1\n", "K1\n", text} {
			if got := read(text + more); !got.isWrong(4, api.ErrLine) {
				t.Errorf("%d %q %v", age, more, got)
			}
		}
		if got := read(strings.ReplaceAll(text, "\n", "\r\n")); !got.isWrong(1, api.ErrLine) {
			t.Error(age, got)
		}
		if got := read(strings.ReplaceAll(text, "\n", "\r")); !got.isWrong(1, api.ErrLine) {
			t.Error(age, got)
		}
	}
}

// P11.2: a last line has two numbers with a comma between; one of them that is not
// what it has to be is another error.
func TestLastLines(t *testing.T) {
	for _, age := range ages() {
		text := made(t, age, fact(1))
		lines := linesOf(text)
		body := lines[0] + "\n" + lines[1] + "\n"
		var count, seal int
		if _, e := fmt.Sscanf(text[len(body):], "=%d,%d\n", &count, &seal); e != nil || count != 1 || seal < 100 {
			t.Fatal(text)
		}
		for _, end := range []string{
			"=%d", "=%d,", "=,%[2]d", "=", "=,", "==%d,%d", "=%d,%d,", "=%d,%d,0", "=%d,,%d", "=%d, %d", "=%d ,%d", "= %d,%d", "=%d,%d ", "=%d,%d\r", "=%d;%d", "=%d%d", "=%d,=%d", "=%d,%d=", "=%d.%d",
			"=0%d,%d", "=%d,0%d", "=00000%d,%d", "=%d,00%d", "=0000000%d,%d", "=+%d,%d", "=%d,+%d", "=-%d,%d", "=%d,-%d", "=%d,%dx", "=0x%d,%d", "=a,%[2]d", "=%d,a",
			"=1000000,%[2]d", "=%d,1000000", "=1000000,1000000", "=%d,99999999999999999999", "=18446744073709551617,%[2]d", "=9223372036854775807,%[2]d", "=%d,9223372036854775808", "=-1,%[2]d", "=%d,-1", "=-0,%[2]d", "=%d,1e3", "=%d,1_0", "=٣,%[2]d",
		} {
			end, _, _ := strings.Cut(fmt.Sprintf(end, count, seal), "%!")
			if got := read(body + end + "\n"); !got.isWrong(3, api.ErrLine) {
				t.Errorf("%d %q %v", age, end, got)
			}
		}
		for _, n := range []int{0, 1, 2, 10, 60, 61, 9972, 9973, 999999, seal - 1, seal + 1, seal + 9973, seal + 2*9973} {
			for _, x := range [][2]int{{count, n}, {n, seal}, {n, n}} {
				if x == [2]int{count, seal} {
					continue
				}
				end := fmt.Sprintf("=%d,%d", x[0], x[1])
				if got := read(body + end + "\n"); !got.isWrong(3, api.ErrSeal) {
					t.Errorf("%d %q %v", age, end, got)
				}
				for _, more := range []string{"\n", "x", "=1,1\n", lines[1] + "\n"} {
					if got := read(body + end + "\n" + more); !got.isWrong(3, api.ErrLine) {
						t.Errorf("%d %q %q %v", age, end, more, got)
					}
				}
			}
		}
	}
}

// P11.2: a line with an equals sign ends a tape, wherever it is.
func TestEndsInTheMiddle(t *testing.T) {
	for _, age := range ages() {
		lines := linesOf(made(t, age, fact(1), fact(2), fact(3)))
		for n := 1; n <= 3; n++ {
			early := sealed(lines[:n]...)
			if got := read(early); got.e != api.OK || len(got.l) != n-1 {
				t.Error(age, n, got)
			}
			if got := read(early + strings.Join(lines[n:], "\n") + "\n"); !got.isWrong(n+1, api.ErrLine) {
				t.Error(age, n, got)
			}
		}
	}
}

// P11.2: there are at most 60 reports, one that is there twice too.
func TestManyLines(t *testing.T) {
	for _, age := range ages() {
		l := facts(1, 60)
		lines := linesOf(made(t, age, l...))
		if got := read(sealed(lines...)); !same(got, told{l: l, age: age}) {
			t.Error(age, got)
		}
		for _, more := range []api.Report{fact(61), fact(1), fact(60)} {
			line := linesOf(made(t, age, more))[1]
			for _, text := range []string{sealed(append(lines, line)...), strings.Join(lines, "\n") + "\n" + line + "\n", sealed(append(append(lines, line), line, "x")...)} {
				if got := read(text); !got.isWrong(62, api.ErrLine) {
					t.Error(age, more, got)
				}
			}
			copies := strings.Split(strings.Repeat(line+" | ", 59)+line, " | ")
			if got := read(sealed(append(lines[:1:1], copies...)...)); got.e != api.OK || len(got.l) != 60 || got.l[59] != more {
				t.Error(age, more, got)
			}
		}
	}
}

// P11.2: reports with the same Id do not differ, in any of their fields.
func TestLinesWithOneId(t *testing.T) {
	one := correction(1, 2)
	for i, other := range append(others(one), one) {
		for _, age := range []int{api.AgeRows, api.AgeTags} {
			text := sealed("T"+fmt.Sprint(age), lineAgain(one, age), lineAgain(fact(5), age), lineAgain(other, age), lineAgain(fact(6), age))
			got := read(text)
			if other == one && got.e != api.OK || other != one && !got.isWrong(4, api.ErrLine) {
				t.Error(i, age, got)
			}
		}
	}
}

// P11.2: a text has at most 8,000 bytes; if it has more, nothing else is looked at.
func TestLongTexts(t *testing.T) {
	for _, x := range []struct {
		begin, filler string
		line          int
	}{
		{"", "x", 1},
		{"", "\n", 1},
		{"T2\n1,70,5,10,8,1,0,0\n=1,1786\n", "\n", 3},
		{"T2\n1,70,5,10,8,1,0,0\n=1,1786\n", "x", 3},
		{"T2\n1,70,5,10,8,1,0,0\n=1,1786", "0", 3},
		{"T2\n1,70,5,10,8,1,0,0", "0", 2},
		{"T2\n", "0", 2},
		{"T2\n", " ", 2},
		{"T3\n", "K1\n", 62},
	} {
		whole := x.begin + strings.Repeat(x.filler, 9000)
		if got := read(whole[:8000]); !got.isWrong(x.line, api.ErrLine) {
			t.Errorf("%q %q %v", x.begin, x.filler, got)
		}
		for _, n := range []int{8001, 8002, len(whole)} {
			if got := read(whole[:n]); !got.isWrong(0, api.ErrLong) {
				t.Errorf("%q %q %d %v", x.begin, x.filler, n, got)
			}
		}
	}
}

// P11.2: the first line that is wrong is told, and of this one the first error.
func TestFirstWrongLine(t *testing.T) {
	for i, x := range []struct {
		text string
		line int
		e    api.Errno
	}{
		{"T4\nx\n=0,0", 1, api.ErrLine},
		{"T2\nx\n1,2\n=9,9\n", 2, api.ErrLine},
		{"T2\n=9,9\nx\n", 2, api.ErrLine},
		{"T2\n=9,9", 2, api.ErrLine},
		{"T2\n=9,9\n", 2, api.ErrSeal},
		{"T2\n1,70,5,10,8,1,0,0\n=9,9\n1,70,5,10,9,1,0,0\n", 3, api.ErrLine},
		{"T2\n1,70,5,10,8,1,0,0\n1,70,5,10,9,1,0,0\n=9,9\n", 3, api.ErrLine},
		{"T2\n1,70,5,10,8,1,0,0\n1,70,5,10,8,1,0,0", 3, api.ErrLine},
		{"T2\n1,70,5,10,8,1,0,0\n1,70,5,10,8,1,0,0\n", 4, api.ErrLine},
		{"T2\n1,70,5,10,8,1,0,0\n1,70,5,10,8,1,0,0\n=2,1\n", 4, api.ErrSeal},
	} {
		if got := read(x.text); !got.isWrong(x.line, x.e) {
			t.Error(i, got)
		}
	}
}
