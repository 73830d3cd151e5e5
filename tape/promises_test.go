package tape_test

import (
	"slices"
	"strings"
	"testing"

	"goodname/account"
	"goodname/api"
)

// P11.5: what is written is read to the same reports, in the same age.
func TestWhatIsWrittenIsRead(t *testing.T) {
	r := newRandom(2)
	for range 2000 {
		l := r.reports(r.Intn(61), pick[uint8](r, 7, 7, 9))
		for _, age := range ages() {
			got := write(l, age)
			if got.e == api.ErrAge && age == api.AgeOld {
				continue
			}
			if x := read(got.text); got.e != api.OK || !slices.Equal(x.l, l) || x.age != age || x.line != 0 || x.e != api.OK {
				t.Fatal(l, age, got, x)
			}
		}
	}
}

// P11.5: the longest tapes that there are can be read.
func TestLongestTapes(t *testing.T) {
	for _, age := range ages() {
		var l []api.Report
		for i := range api.MaxReports {
			x := greatest(min(api.RepCorrect, lastOf(age)))
			if age == api.AgeOld {
				x = greatest(api.RepPaid)
			}
			x.Id -= 2 * i
			l = append(l, x)
		}
		text := made(t, age, l...)
		if got := read(text); !same(got, told{l: l, age: age}) || len(text) < 60*45 {
			t.Error(age, len(text), got)
		}
	}
}

// P11.5: a tape that is read is written to the same bytes.
func TestWhatIsReadIsWritten(t *testing.T) {
	r := newRandom(3)
	seen := 0
	for range 60000 {
		text := r.text(t)
		got := read(text)
		if got.e != api.OK {
			continue
		}
		if out := write(got.l, got.age); out != (written{text: text}) {
			t.Fatalf("%q %v %v", text, got, out)
		}
		seen++
	}
	if seen < 5000 {
		t.Error("too few are read", seen)
	}
}

// changed calls a function for a text in which one byte is changed to any other one,
// or is left out.
func changed(text string, at int, f func(text string)) {
	f(text[:at] + text[at+1:])
	l := []byte(text)
	for n := range 256 {
		if byte(n) != text[at] {
			l[at] = byte(n)
			f(string(l))
		}
	}
}

// P11.6: one byte that is changed, or left out, is always seen: each one of short
// tapes, with all kinds of reports.
func TestOneByteIsSeen(t *testing.T) {
	r := newRandom(4)
	for _, age := range ages() {
		tapes := []string{made(t, age), made(t, age, fact(1)), made(t, age, api.Report{Kind: 1}, api.Report{Kind: 1}), made(t, age, greatest(lastOf(age)), fact(11), fact(110))}
		for range 5 {
			tapes = append(tapes, r.tape(t, 1+r.Intn(6), age))
		}
		for _, text := range tapes {
			for at := range len(text) {
				changed(text, at, func(other string) {
					if got := read(other); got.e == api.OK {
						t.Fatalf("%q %q %v", text, other, got)
					}
				})
			}
		}
	}
}

// P11.6: and some of long tapes, in which lines weigh more.
func TestOneByteOfManyIsSeen(t *testing.T) {
	r := newRandom(5)
	for _, age := range ages() {
		text := r.tape(t, 60, age)
		for range 60 {
			changed(text, r.Intn(len(text)), func(other string) {
				if got := read(other); got.e == api.OK {
					t.Fatalf("%q %q %v", text, other, got)
				}
			})
		}
	}
}

// story is reports of two accounts that correct, withdraw and contradict each other,
// without those that have no line in an age.
func (r random) story(age int) []api.Report {
	var l []api.Report
	for id := range 5 + r.Intn(20) {
		x := api.Report{Id: id, Source: 70 + r.Intn(2), Account: 1 + r.Intn(2), Made: r.Intn(6), About: r.Intn(6), Kind: uint8(1 + r.Intn(7))}
		if x.Kind != api.RepOpened && x.Kind != api.RepClosed {
			x.Cents = r.Intn(3)
		}
		if age != api.AgeOld && id > 0 && r.Intn(3) == 0 {
			of := pick(r, l...)
			x.Source, x.Account, x.Kind, x.Of = of.Source, of.Account, pick[uint8](r, api.RepCorrect, api.RepWithdraw), of.Id
		}
		if x.Kind == api.RepWithdraw {
			x.About, x.Cents = 0, 0
		}
		l = append(l, x)
	}
	return mixedUp(r, l)
}

// opinion is all that is told of accounts.
type opinion struct {
	standing []api.Report
	states   [2][6]api.State
	clashes  [2][]api.Clash
	fates    [25][2]int
}

// opinionOf is what is told of the tape of a story, by what is known on a day.
func opinionOf(t *testing.T, text string, known int) (o opinion) {
	t.Helper()
	x := read(text)
	var errors [4]api.Errno
	o.standing, errors[0] = account.Standing(x.l, known)
	for i := range 2 {
		for day := range 6 {
			o.states[i][day], errors[1] = account.State(x.l, i+1, day, known)
		}
		o.clashes[i], errors[2] = account.Clashes(x.l, i+1, known)
	}
	for id := range o.fates {
		fate, by, _ := account.Fate(x.l, id, known)
		o.fates[id] = [2]int{int(fate), by}
	}
	errors[3] = x.e
	if errors != [4]api.Errno{} {
		t.Fatalf("%q %v", text, errors)
	}
	return o
}

// P11.7: what is told of accounts is the same for the tape of any age.
func TestAgesTellTheSame(t *testing.T) {
	r := newRandom(6)
	for range 200 {
		least := pick(r, ages()...)
		l := r.story(least)
		known := r.Intn(7)
		want := opinionOf(t, made(t, api.AgeTags, l...), known)
		for age := least; age <= api.AgeTags; age++ {
			if got := opinionOf(t, made(t, age, l...), known); !same(got, want) {
				t.Fatal(l, age, known, got, want)
			}
		}
	}
}

// P11.7: and for tapes that are joined in any order, also if they share reports.
func TestJoinedTapesTellTheSame(t *testing.T) {
	r := newRandom(7)
	for range 200 {
		l := r.story(api.AgeRows)
		known := r.Intn(7)
		want := opinionOf(t, made(t, api.AgeRows, l...), known)
		var tapes []string
		for part := range 3 {
			some := slices.DeleteFunc(slices.Clone(l), func(x api.Report) bool { return x.Id%3 != part && r.Intn(3) > 0 })
			tapes = append(tapes, made(t, pick(r, api.AgeRows, api.AgeTags), some...))
		}
		for range 3 {
			tapes = mixedUp(r, tapes)
			two := join(tapes[0], tapes[1], pick(r, api.AgeRows, api.AgeTags))
			left, right := join(two.text, tapes[2], api.AgeRows), join(tapes[2], two.text, api.AgeTags)
			for _, x := range []written{left, right} {
				if got := opinionOf(t, x.text, known); !same(got, want) {
					t.Fatalf("%v %v %v %v", l, tapes, got, want)
				}
			}
		}
	}
}

// P11.8: a tape that is told to another age, and back, is the same bytes.
func TestToldAndBack(t *testing.T) {
	r := newRandom(8)
	for range 500 {
		age := pick(r, ages()...)
		text := r.tape(t, r.Intn(61), age)
		for _, other := range ages() {
			there := convert(text, other)
			if there.e == api.ErrAge && strings.ContainsAny(text, "O,") {
				continue
			}
			if back := convert(there.text, age); there.e != api.OK || back != (converted{text: text}) {
				t.Fatal(text, other, there, back)
			}
		}
	}
}

// P11.8: a tape joined with itself is itself.
func TestJoinedWithItself(t *testing.T) {
	r := newRandom(9)
	for range 500 {
		age := pick(r, ages()...)
		text := r.tape(t, r.Intn(61), age)
		if got := join(text, text, age); got != (written{text: text}) {
			t.Fatal(text, got)
		}
	}
}
