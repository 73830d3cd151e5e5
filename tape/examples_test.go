package tape_test

import (
	"strings"
	"testing"

	"goodname/api"
)

// text is a tape whose lines are shown with a bar between them.
func text(lines string) string { return strings.ReplaceAll(lines, " | ", "\n") + "\n" }

// DOC.md, example 11: T2 and =0,144, as 84 and 50 and 10 are 144.
func TestExamplesOfWrite(t *testing.T) {
	for _, x := range []struct {
		l    []api.Report
		age  int
		want string
	}{
		{nil, 2, "T2 | =0,144"},
		{[]api.Report{fact(1)}, 2, "T2 | 1,70,5,10,8,1,0,0 | =1,1786"},
	} {
		if got := write(x.l, x.age); got != (written{text(x.want), api.OK}) {
			t.Error(x, got)
		}
	}
	for age, want := range map[int]string{
		1: "000001" + "000070" + "000005" + "000010" + "000008" + "1" + "0000000000000",
		3: "I1 S70 A5 M10 B8 K1",
	} {
		if got := linesOf(made(t, age, fact(1))); len(got) != 2 || got[1] != want {
			t.Error(age, got)
		}
	}
}

func TestExamplesOfRead(t *testing.T) {
	for _, x := range []struct {
		text string
		want told
	}{
		{"T2 | =0,144", told{age: 2}},
		{"T2 | 1,70,5,10,8,1,0,0 | =1,1786", told{l: []api.Report{fact(1)}, age: 2}},
		{"T2 | =0,143", told{line: 2, e: api.ErrSeal}},
		{"T2 | 1,70,5,10,8,1,0,00 | =1,1786", told{line: 2, e: api.ErrLine}},
	} {
		if got := read(text(x.text)); !same(got, x.want) {
			t.Error(x, got)
		}
	}
}
