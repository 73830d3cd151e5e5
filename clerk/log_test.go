package clerk_test

import (
	"fmt"
	"slices"
	"strings"
	"testing"

	"goodname/api"
)

func dayEntry(day, n int) api.Entry { return api.Entry{Day: day, Word: "DAY", Args: []int{n}} }

// recordEntry is an entry whose line has so many bytes, from 20 to 220.
func recordEntry(bytes int) api.Entry {
	line := len("0;RECORD;0,0,0,0,0;\n")
	return api.Entry{Word: "RECORD", Args: make([]int, 5), Note: strings.Repeat("A", bytes-line)}
}

// P12.4: the text of a log has a line for each entry, and one at the end.
func TestWriteLog(t *testing.T) {
	for i, x := range []struct {
		log  []api.Entry
		text string
	}{
		{nil, "#0;0\n"},
		{[]api.Entry{}, "#0;0\n"},
		{[]api.Entry{dayEntry(5, 5)}, "5;DAY;5;\n#1;2367\n"},
		// 48 + 118 + 237 + 348 + 390 + 354 + 343 + 352 + 405 + 500 + 649 + 120 is 3864.
		{[]api.Entry{{Word: "OWN", Args: []int{1, -2}}}, "0;OWN;1,-2;\n#1;3864\n"},
		{[]api.Entry{dayEntry(-api.MaxTold, api.MaxTold)}, ended("-1000000000000;DAY;1000000000000;\n")},
		{[]api.Entry{dayEntry(5, 5), dayEntry(3, 0)}, ended("5;DAY;5;\n3;DAY;0;\n")},
		{[]api.Entry{{Day: 7, Word: "RECORD", Args: []int{1, -2, 30, 4, 5}}}, ended("7;RECORD;1,-2,30,4,5;\n")},
		{[]api.Entry{{Day: 7, Word: "RECORD", Args: []int{1, 2, 3, 4, 5, 6, 7, 8}, Note: " A/9 "}}, ended("7;RECORD;1,2,3,4,5,6,7,8; A/9 \n")},
	} {
		if got := write(x.log); got != (written{text: x.text}) {
			t.Errorf("%d %q %v", i, got.text, got.e)
		}
		if got := read(x.text); !same(got, told{log: x.log}) {
			t.Error(i, got)
		}
	}
}

// P12.4: each entry is a command, of any day; there are at most 200, and at most
// 30,000 bytes.
func TestErrorsOfWriteLog(t *testing.T) {
	for i, x := range entries() {
		for _, l := range [][]api.Entry{{x.entry}, {dayEntry(9, 9), x.entry, dayEntry(1, 1)}} {
			if got := write(l); (got.e == api.OK) != x.valid || !x.valid && got != (written{e: api.ErrArg}) {
				t.Error(i, x, got)
			}
		}
	}
	for _, day := range huge() {
		if got := write([]api.Entry{dayEntry(9, 9), dayEntry(day, 1)}); got != (written{e: api.ErrArg}) {
			t.Error(day, got)
		}
	}
	for n, e := range map[int]api.Errno{199: api.OK, 200: api.OK, 201: api.ErrArg, 5000: api.ErrArg} {
		if got := write(slices.Repeat([]api.Entry{dayEntry(5, 5)}, n)); got.e != e || (got.text == "") != (e != api.OK) {
			t.Error(n, got)
		}
	}
	long := slices.Repeat([]api.Entry{recordEntry(220)}, 136)
	end := len(write(long[:130]).text) - 130*220
	for more, e := range map[int]api.Errno{-1: api.OK, 0: api.OK, 1: api.ErrFull, 2: api.ErrFull} {
		l := append(slices.Clone(long[:136]), recordEntry(30000-136*220-end+more))
		got := write(l)
		if got.e != e || e == api.OK && len(got.text) != 30000+more || e != api.OK && got.text != "" {
			t.Error(more, len(got.text), got.e)
		}
		if e == api.OK && !same(read(got.text), told{log: l}) {
			t.Error(more)
		}
	}
	// What is wrong comes before what is too long.
	if got := write(append(slices.Repeat(long, 1), dayEntry(0, 0), api.Entry{})); got != (written{e: api.ErrArg}) {
		t.Error(got)
	}
	if got := write(slices.Repeat(long[:1], 200)); got != (written{e: api.ErrFull}) {
		t.Error(got)
	}
}

// P12.5: the first line that is wrong is told.
func TestErrorsOfReadLog(t *testing.T) {
	const one = "5;DAY;5;\n"
	row, end := api.ErrRow, api.ErrEnd
	for i, x := range []struct {
		text string
		line int
		e    api.Errno
	}{
		{"", 1, row}, {"\n", 1, row}, {"#", 1, row}, {"#\n", 1, row}, {"#0;0", 1, row}, {"#0;0\r\n", 1, row}, {" #0;0\n", 1, row}, {"##0;0\n", 1, row}, {"#0,0\n", 1, row}, {"#0;0;\n", 1, row}, {"#;\n", 1, row}, {"#0;\n", 1, row}, {"#;0\n", 1, row}, {"#0\n", 1, row}, {"#0;0;0\n", 1, row},
		{"#0;1\n", 1, end}, {"#1;0\n", 1, end}, {"#1;1\n", 1, end}, {"#1000000000000;0\n", 1, end}, {"#0;1000000000000\n", 1, end}, {"#1000000000001;0\n", 1, row}, {"#0;1000000000001\n", 1, row}, {"#0;9223372036854775807\n", 1, row}, {"#0;9223372036854775808\n", 1, row}, {"#0;18446744073709551616\n", 1, row}, {"#18446744073709551616;0\n", 1, row},
		{"#00;0\n", 1, row}, {"#0;00\n", 1, row}, {"#+0;0\n", 1, row}, {"#0;+0\n", 1, row}, {"#-0;0\n", 1, row}, {"#0;-0\n", 1, row}, {"#-1;0\n", 1, row}, {"#0;-1\n", 1, row}, {"#0x0;0\n", 1, row}, {"#0;0_0\n", 1, row},
		{"#0;0\n#0;0\n", 1, row}, {"#0;0\n\n", 1, row}, {"#0;0\n" + one, 1, row}, {"#0;0\nx", 1, row}, {"\n#0;0\n", 1, row},
		{one, 2, row}, {one + one, 3, row}, {one[:8], 1, row}, {one + one[:8], 2, row}, {one + "#1;2366\n", 2, end}, {one + "#1;2368\n", 2, end}, {one + "#0;2367\n", 2, end}, {one + "#2;2367\n", 2, end}, {one + "#1;0\n", 2, end}, {one + "#1;2367", 2, row}, {one + "#1;02367\n", 2, row}, {one + "\n#1;2367\n", 2, row}, {one + "#1;2367\n#1;2367\n", 2, row},
		{"6;DAY;5;\n#1;2367\n", 2, end}, {"5;DAY;6;\n#1;2367\n", 2, end}, {ended(one)[:9] + ended(one + one)[18:], 2, end},
	} {
		if got := read(x.text); !same(got, told{line: x.line, e: x.e}) {
			t.Errorf("%d %q %v", i, x.text, got)
		}
	}
}

// P12.5: a line is that of an entry byte for byte, or is wrong, though the end is right.
func TestRowsOfReadLog(t *testing.T) {
	for i, line := range []string{
		"", "5", "5;DAY", "5;DAY;5", "5;DAY;5;;", ";5;DAY;5;", "5;DAY;5; ", "5;DAY;5;A", "5;DAY;5;\r", " 5;DAY;5;", "5;DAY ;5;", "5;DAY;5 ;", "5,DAY,5,",
		"05;DAY;5;", "+5;DAY;5;", "-0;DAY;5;", ";DAY;5;", "x;DAY;5;", "5x;DAY;5;", "--5;DAY;5;", "1000000000001;DAY;5;", "-1000000000001;DAY;5;", "9223372036854775807;DAY;5;", "9223372036854775808;DAY;5;", "0x5;DAY;5;", "5.0;DAY;5;", "1_0;DAY;5;",
		"5;DAY;;", "5;DAY;05;", "5;DAY;+5;", "5;DAY;-0;", "5;DAY;5,;", "5;DAY;,5;", "5;DAY;5,5;", "5;DAY;x;", "5;DAY;1000000000001;", "5;DAY;-1000000000001;", "5;DAY;-9223372036854775808;",
		"5;day;5;", "5;;5;", "5;NIGHT;5;", "5;OWN;5;", "5;OWN;1,2,3;", "5;OWN;1, 2;", "5;OWN;1,,2;", "5;OWN;1;2;", "5;OWN;1,2;A",
		"5;RECORD;1,2,3,4;A/", "5;RECORD;1,2,3,4,5,6;A/", "5;RECORD;1,2,3,4,5;a/", "5;RECORD;1,2,3,4,5;A;", "5;RECORD;1,2,3,4,5;A-", "5;RECORD;1,2,3,4,5;\x00", "5;RECORD;1,2,3,4,5;\xc3\x84", "5;RECORD;1,2,3,4,5;" + strings.Repeat("A", 201), "5;RECORD;" + strings.Repeat("1,", 25) + "1;",
		"#", "#1;9", "#0;0",
	} {
		for n := range 3 {
			text := ended(strings.Repeat("5;DAY;5;\n", n) + line + "\n" + strings.Repeat("5;DAY;5;\n", n))
			if got := read(text); !same(got, told{line: n + 1, e: api.ErrRow}) {
				t.Errorf("%d %q %v", i, text, got)
			}
		}
	}
}

// P12.5: a text has at most 200 entries, and 30,000 bytes.
func TestLongTexts(t *testing.T) {
	row := "5;DAY;5;\n"
	for n, want := range map[int]told{199: {}, 200: {}, 201: {line: 201, e: api.ErrRow}, 202: {line: 201, e: api.ErrRow}, 3000: {line: 201, e: api.ErrRow}} {
		got := read(ended(strings.Repeat(row, n)))
		if want.e == api.OK && (len(got.log) != n || got.e != api.OK || got.line != 0) || want.e != api.OK && !same(got, want) {
			t.Error(n, got)
		}
	}
	if got := read(strings.Repeat(row, 200)); !same(got, told{line: 201, e: api.ErrRow}) {
		t.Error(got)
	}
	// The end of a text with 201 entries is not looked at.
	if got := read(strings.Repeat(row, 201) + "#7;7\n"); !same(got, told{line: 201, e: api.ErrRow}) {
		t.Error(got)
	}
	for n, want := range map[int]told{0: {line: 1, e: api.ErrRow}, 29999: {line: 1, e: api.ErrRow}, 30000: {line: 1, e: api.ErrRow}, 30001: {e: api.ErrFull}, 1000000: {e: api.ErrFull}} {
		if got := read(strings.Repeat("x", n)); !same(got, want) {
			t.Error(n, got)
		}
	}
	if got := read(ended(strings.Repeat(row, 4000))); !same(got, told{e: api.ErrFull}) {
		t.Error(got)
	}
}

// P12.8: one byte that is changed, left out, or put in, is seen, or makes another log
// with the same sum.
func TestOneByte(t *testing.T) {
	for _, log := range [][]api.Entry{
		nil, {dayEntry(5, 5)}, {dayEntry(0, 0), dayEntry(10, 10)}, {{Word: "OWN", Args: []int{1, -2}}, {Day: 11, Word: "OWN", Args: []int{11, 22}}},
		{{Day: -3, Word: "RECORD", Args: []int{7, 0, 10, 10, 0, 11, 1, 100}, Note: "LEE ANNA/111"}, {Word: "MERGE", Args: []int{1, 1, 11}}, {Word: "SPLIT", Args: []int{0, 1, 11}}},
	} {
		text := write(log).text
		look := func(other string) {
			got := read(other)
			if got.e != api.OK && !same(got, told{line: got.line, e: got.e}) || got.e == api.OK && (same(got.log, log) || write(got.log).text != other) {
				t.Errorf("%q %q %v", text, other, got)
			}
		}
		for i := range len(text) {
			look(text[:i] + text[i+1:])
			for b := range 256 {
				if other := string([]byte{byte(b)}); other != text[i:i+1] {
					look(text[:i] + other + text[i+1:])
					look(text[:i] + other + text[i:])
				}
			}
		}
	}
}

// entry is any entry that may be in a log.
func (r random) entry() api.Entry {
	word := pick(r, "DAY", "RECORD", "MERGE", "SPLIT", "UNDO", "OWN", "REPORT", "DISPUTE", "ANSWER", "SIGNAL", "ASK")
	numbers := map[string]int{"DAY": 1, "RECORD": 5 + 3*r.Intn(7), "MERGE": 3, "SPLIT": 3, "UNDO": 2, "OWN": 2, "REPORT": 7, "DISPUTE": 2, "ANSWER": 5, "SIGNAL": 5, "ASK": 5}[word]
	number := func(int) int {
		return pick(r, 0, r.Intn(10), -r.Intn(100), r.Intn(100000), api.MaxTold, -api.MaxTold, r.Intn(2*api.MaxTold)-api.MaxTold)
	}
	x := api.Entry{Day: number(0), Word: word, Args: many(numbers, number)}
	if word == "RECORD" {
		x.Note = strings.Join(many(pick(r, 0, 1, r.Intn(20), r.Intn(201)), func(int) string { return pick(r, "A", "Z", "M", "0", "9", " ", "/") }), "")
	}
	return x
}

// spoil changes something of a text's lines.
func (r random) spoil(text string) string {
	l := strings.SplitAfter(text, "\n")
	at := r.Intn(len(l))
	line, k := l[at], 0
	if len(line) > 0 {
		k = r.Intn(len(line))
	}
	some := pick(r, "0", "1", "9", "-", "+", "#", ";", ",", " ", "/", "A", "\n", "\r", "\x00", "\xff", "1000000000001", "18446744073709551616")
	switch r.Intn(6) {
	case 0:
		l[at] = line[:k] + some + line[k:]
	case 1:
		l[at] = line[:k] + some + line[min(k+1, len(line)):]
	case 2:
		l[at] = line[:k] + line[min(k+1, len(line)):]
	case 3:
		l = slices.Delete(l, at, at+1)
	case 4:
		l = slices.Insert(l, at, pick(r, l...))
	case 5:
		l[at] = pick(r, l...)
	}
	return strings.Join(l, "")
}

// P12.4, P12.5, P12.8: any logs and texts are written and read as the definitions tell;
// what is written is read to the same, and what is read is written to the same.
func TestLogAgain(t *testing.T) {
	r, seen := newRandom(6), map[api.Errno]int{}
	for range 6000 {
		log := many(pick(r, r.Intn(4), r.Intn(4), r.Intn(4), r.Intn(20), r.Intn(203)), func(int) api.Entry { return r.entry() })
		if r.Intn(30) == 0 {
			log = many(125+r.Intn(40), func(int) api.Entry { return recordEntry(200 + r.Intn(20)) })
		}
		if len(log) > 0 && r.Intn(8) == 0 {
			log = r.other(log)
		}
		got := write(log)
		if got != writeAgain(log) {
			t.Fatal(log, got, writeAgain(log))
		}
		seen[got.e]++
		text := got.text
		for range r.Intn(3) {
			text = r.spoil(text)
		}
		if end := strings.LastIndex(text, "#"); end >= 0 && r.Intn(2) == 0 {
			text = ended(text[:end])
		}
		back := read(text)
		if want := readAgain(text); !same(back, want) {
			t.Fatalf("%q %v %v", text, back, want)
		}
		if text == got.text && got.e == api.OK && !same(back, told{log: log}) || back.e == api.OK && write(back.log).text != text {
			t.Fatalf("%q %v", text, back)
		}
		seen[back.e]++
	}
	for _, e := range []api.Errno{api.OK, api.ErrArg, api.ErrFull, api.ErrRow, api.ErrEnd} {
		if seen[e] < 50 {
			t.Error("too few", fmt.Sprint(int(e)), seen)
		}
	}
}
