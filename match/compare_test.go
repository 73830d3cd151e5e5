package match_test

import (
	"strings"
	"testing"

	"goodname/api"
	"goodname/match"
)

const (
	not  = api.AgreeNot
	open = api.AgreeOpen
	like = api.AgreeLike
	same = api.AgreeSame
)

// P1.2: names, with Letters 1.
func TestNames(t *testing.T) {
	full := strings.Repeat("A", api.MaxWord)
	for _, x := range []struct {
		a, b string
		want uint8
	}{
		// The family's words: no initial is the same as another word.
		{"LEE", "LEE", same}, {"LEE", "LEA", like}, {"LEE", "LE", like}, {"LEE", "LEES", like}, {"LEE", "LIA", not},
		{"L", "LEE", not}, {"L", "LE", like}, {"L", "L", same}, {"L", "M", like}, {"LEE", "EEL", not},
		// Given names: none fit all.
		{"LEE", "LEE ANNA MAY", same}, {"LEA", "LEE ANNA MAY", like}, {"LIA", "LEE ANNA MAY", not},
		{"LEE", "LEE A B C D", same},
		// As many of both: each with its own.
		{"LEE ANNA MAY", "LEE ANNA MAY", same}, {"LEE ANNA MAY", "LEE MAY ANNA", not}, {"LEE ANNA MAY", "LEE ANNE MAY", like},
		{"LEE ANNA MAY", "LEE ANNE MAX", like}, {"LEE ANNA MAY", "LEE ENNE MAY", not}, {"LEE ANNA", "LEE MAY", not},
		// Fewer of one: in their order, perhaps with others between them.
		{"LEE MAY", "LEE ANNA MAY", same}, {"LEE ANNA", "LEE ANNA MAY", same}, {"LEE ANNA MAY", "LEE ANNA ROSE MAY", same},
		{"LEE MAY ANNA", "LEE ANNA ROSE MAY", not}, {"LEE MAY ANNA", "LEE ANNA MAY ROSE ANNA", same}, {"LEE ANNA ANNA", "LEE ANNA MAY ROSE", not},
		{"LEE MAX", "LEE ANNA MAY", like}, {"LEA MAX", "LEE ANNA MAY", like}, {"LEE MIX", "LEE ANNA MAY", not},
		{"LEE ROSE", "LEE ANNA MAY", not}, {"LEE ANNA MAY", "LEE X ANNA Y MAY", same}, {"LEE A B C D", "LEE A B C D", same},
		// A name is used once, and none of the other one's is used before the last that was.
		{"LEE A A", "LEE ANNA MAY ROSE", not}, {"LEE A A", "LEE ANNA ALMA MAY", same}, {"LEE A A A", "LEE ANNA ALMA MAY ADA", same}, {"LEE A A A A", "LEE ANNA ALMA MAY ADA", not},
		// Initials.
		{"LEE A", "LEE ANNA", same}, {"LEE A M", "LEE ANNA MAY", same}, {"LEE M A", "LEE ANNA MAY", not}, {"LEE M", "LEE ANNA MAY", same},
		{"LEE A MAY", "LEE ANNA M", same}, {"LEE A", "LEE A", same}, {"LEE A", "LEE B", like}, {"LEE B", "LEE ANNA", not}, {"LEE AN", "LEE ANNA", not}, {"LEE ANN", "LEE ANNA", like},
		{"LEE N", "LEE ANNA", not}, {"LEE A", "LEE " + full, same}, {"LEE A MAX", "LEE ANNA MAY", like}, {"LEA A", "LEE ANNA", like}, {"LEE A", "LEE BA", like},
		// The first that fits is as good as each other one.
		{"LEE A ANNA", "LEE ANNA A ANNA", same}, {"LEE ANNE MAY", "LEE ANNA MAX MAY", like}, {"LEE ANNE MAY", "LEE ANNA ANNE MAY", same},
		// A given name that is an edit away from one, and the same as a later one.
		{"LEE B C", "LEE A B C", same}, {"LEE B B", "LEE A B C", like},
		{full + " " + full, full + " " + full, same}, {full, full[1:], like}, {full, full[2:], not},
	} {
		r := api.Rules{Letters: 1, Together: 1}
		a, b := made(names(strings.Fields(x.a)...)), made(names(strings.Fields(x.b)...))
		if m, ok := compared(r, a, b); !ok || m.Names != x.want {
			t.Errorf("%s and %s: %d, not %d", x.a, x.b, m.Names, x.want)
		}
	}
}

// P1.2: as many letters as the rules say, and none more.
func TestLetters(t *testing.T) {
	for letters := range api.MaxEdits + 1 {
		r := api.Rules{Letters: letters, Together: 1}
		for wrong := range 8 {
			w := "ABCDEFGH"[:8-wrong]
			want := uint8(not)
			if wrong <= letters {
				want = like
			}
			if wrong == 0 {
				want = same
			}
			family, _ := compared(r, made(names("ABCDEFGH", "ANNA")), made(names(w, "ANNA")))
			given, _ := compared(r, made(names("STONE", "ANNA", "XABCDEFG")), made(names("STONE", "ANNA", "X"+w[:len(w)-1])))
			if family.Names != want {
				t.Error(letters, wrong, family)
			}
			if wrong < 7 && given.Names != want {
				t.Error(letters, wrong, given)
			}
			if wrong == 7 && given.Names != same {
				t.Error("an initial is the same", letters, given)
			}
		}
	}
}

// P1.2: numbers, with as many digits wrong as the rules say, place by place.
func TestNumbers(t *testing.T) {
	for digits := range api.MaxEdits + 1 {
		r := api.Rules{Digits: digits, Together: 1}
		for wrong := range api.MaxNumber + 1 {
			want := uint8(not)
			if wrong <= digits {
				want = like
			}
			if wrong == 0 {
				want = same
			}
			head := "999999999"[:wrong] + "246813578"[wrong:]
			tail := "246813578"[:api.MaxNumber-wrong] + "999999999"[:wrong]
			for _, n := range []string{head, tail} {
				if m, ok := compared(r, made(number("246813578")), made(number(n))); !ok || m.Number != want {
					t.Error(digits, wrong, n, m)
				}
			}
		}
		// A digit that is left out, and another one put in, moves all between.
		if m, ok := compared(r, made(number("123456789")), made(number("234567891"))); !ok || m.Number != not {
			t.Error(digits, m)
		}
		for _, n := range []string{"", "246813579"} {
			if m, ok := compared(r, made(number("")), made(number(n))); !ok || m.Number != open {
				t.Error(digits, n, m)
			}
		}
	}
}

// P1.2: births, of single days and of spans.
func TestBirths(t *testing.T) {
	for i, x := range []struct {
		days   int
		a, b   [2]int
		agrees uint8
	}{
		{0, [2]int{50, 50}, [2]int{50, 50}, same}, {1000, [2]int{50, 50}, [2]int{50, 50}, same}, {0, [2]int{0, 0}, [2]int{0, 0}, same},
		{0, [2]int{50, 50}, [2]int{51, 51}, not}, {1, [2]int{50, 50}, [2]int{51, 51}, open}, {1, [2]int{50, 50}, [2]int{52, 52}, not},
		{0, [2]int{50, 51}, [2]int{50, 51}, open}, {0, [2]int{50, 51}, [2]int{50, 50}, open}, {0, [2]int{50, 51}, [2]int{51, 51}, open},
		{0, [2]int{50, 51}, [2]int{52, 60}, not}, {0, [2]int{50, 52}, [2]int{52, 60}, open}, {9, [2]int{50, 51}, [2]int{60, 61}, open}, {8, [2]int{50, 51}, [2]int{60, 61}, not},
		{0, [2]int{0, api.MaxDay}, [2]int{500, 500}, open}, {0, [2]int{0, api.MaxDay}, [2]int{500, 600}, open}, {0, [2]int{0, api.MaxDay}, [2]int{api.MaxDay, api.MaxDay}, open},
		{1000, [2]int{0, 0}, [2]int{1000, 1000}, open}, {1000, [2]int{0, 0}, [2]int{1001, 1001}, not}, {1000, [2]int{0, 0}, [2]int{api.MaxDay, api.MaxDay}, not},
		{1000, [2]int{0, 98999}, [2]int{api.MaxDay, api.MaxDay}, not}, {1000, [2]int{0, 99000}, [2]int{api.MaxDay, api.MaxDay}, open},
	} {
		r := api.Rules{Days: x.days, Together: 1}
		if m, ok := compared(r, made(born(x.a[0], x.a[1])), made(born(x.b[0], x.b[1]))); !ok || m.Born != x.agrees {
			t.Error(i, x, m)
		}
	}
}

// P1.2: places, by the days of two stays in common, both ends included.
func TestPlaces(t *testing.T) {
	at := func(place, from, to int) api.Stay { return api.Stay{Place: place, From: from, To: to} }
	for i, x := range []struct {
		together int
		a, b     []api.Stay
		agrees   uint8
	}{
		{1, nil, nil, open}, {1, nil, []api.Stay{at(1, 0, 9)}, open},
		{1, []api.Stay{at(1, 5, 5)}, []api.Stay{at(1, 5, 5)}, same}, {2, []api.Stay{at(1, 5, 5)}, []api.Stay{at(1, 5, 5)}, open},
		{1, []api.Stay{at(1, 5, 5)}, []api.Stay{at(2, 5, 5)}, open}, {1, []api.Stay{at(1, 5, 5)}, []api.Stay{at(1, 6, 6)}, open},
		{1, []api.Stay{at(0, 0, 5)}, []api.Stay{at(0, 5, 9)}, same}, {2, []api.Stay{at(0, 0, 5)}, []api.Stay{at(0, 5, 9)}, open},
		{10, []api.Stay{at(1, 0, 99)}, []api.Stay{at(1, 20, 29)}, same}, {11, []api.Stay{at(1, 0, 99)}, []api.Stay{at(1, 20, 29)}, open},
		{10, []api.Stay{at(1, 0, 29)}, []api.Stay{at(1, 20, 99)}, same}, {11, []api.Stay{at(1, 0, 29)}, []api.Stay{at(1, 20, 99)}, open},
		{10, []api.Stay{at(1, 20, 29)}, []api.Stay{at(1, 20, 29)}, same}, {11, []api.Stay{at(1, 20, 29)}, []api.Stay{at(1, 20, 29)}, open},
		{1, []api.Stay{at(1, 0, 9)}, []api.Stay{at(1, 90, 99)}, open}, {1000, []api.Stay{at(1, 0, 9)}, []api.Stay{at(1, 90, 99)}, open},
		{1000, []api.Stay{at(1, 0, api.MaxDay)}, []api.Stay{at(1, 5, 1004)}, same}, {1000, []api.Stay{at(1, 0, api.MaxDay)}, []api.Stay{at(1, 5, 1003)}, open},
		// Days of several stays are not added up, nor are those of several places.
		{10, []api.Stay{at(1, 0, 8), at(1, 9, 17)}, []api.Stay{at(1, 0, 99)}, open},
		{10, []api.Stay{at(1, 0, 5), at(2, 6, 17)}, []api.Stay{at(1, 0, 5), at(2, 9, 16)}, open},
		// One pair of stays is enough, wherever it stands in the lists.
		{10, []api.Stay{at(3, 0, 5), at(2, 6, 17), at(1, 0, 9)}, []api.Stay{at(4, 0, 99), at(1, 5, 9), at(1, 0, 9)}, same},
		{10, []api.Stay{at(9, 0, 0), at(9, 0, 0), at(9, 0, 0), at(9, 0, 0), at(9, 0, 0), at(api.MaxPlace, 1, 10)}, []api.Stay{at(api.MaxPlace, 1, 10)}, same},
	} {
		r := api.Rules{Together: x.together}
		if m, ok := compared(r, made(stays(x.a...)), made(stays(x.b...))); !ok || m.Place != x.agrees {
			t.Error(i, x, m)
		}
	}
}

// P1.2: whether two records are one person's, for each reason.
func TestOne(t *testing.T) {
	otherName, likeName := names("STONE", "BERTA"), names("STONE", "CARLO", "IRIS")
	otherNumber, likeNumber, noNumber := number("135792468"), number("246813500"), number("")
	away, about := born(4021, 4021), born(4020, 4020)
	nowhere := stays()
	senior, junior := suffix(api.SuffixSenior), suffix(api.SuffixJunior)
	for i, x := range []struct {
		a, b []change
		want api.Match
	}{
		{nil, nil, api.Match{Names: same, Number: same, Born: same, Place: same, One: api.KnownYes}},
		// Births exclude, whatever else agrees.
		{nil, []change{away}, api.Match{Names: same, Number: same, Born: not, Place: same, One: api.KnownNo}},
		{nil, []change{about}, api.Match{Names: same, Number: same, Born: open, Place: same, One: api.KnownYes}},
		// Suffixes exclude if one is a senior, and the other one a junior.
		{[]change{senior}, []change{junior}, api.Match{Names: same, Number: same, Born: same, Place: same, One: api.KnownNo}},
		{[]change{senior}, []change{senior}, api.Match{Names: same, Number: same, Born: same, Place: same, One: api.KnownYes}},
		{[]change{junior}, []change{junior}, api.Match{Names: same, Number: same, Born: same, Place: same, One: api.KnownYes}},
		{[]change{senior}, nil, api.Match{Names: same, Number: same, Born: same, Place: same, One: api.KnownYes}},
		{nil, []change{junior}, api.Match{Names: same, Number: same, Born: same, Place: same, One: api.KnownYes}},
		// Names exclude but with one number.
		{nil, []change{otherName}, api.Match{Names: not, Number: same, Born: same, Place: same, One: api.KnownOpen}},
		{nil, []change{otherName, likeNumber}, api.Match{Names: not, Number: like, Born: same, Place: same, One: api.KnownNo}},
		{nil, []change{otherName, noNumber}, api.Match{Names: not, Number: open, Born: same, Place: same, One: api.KnownNo}},
		{nil, []change{otherName, otherNumber}, api.Match{Names: not, Number: not, Born: same, Place: same, One: api.KnownNo}},
		// Numbers exclude but at one place.
		{nil, []change{otherNumber, nowhere}, api.Match{Names: same, Number: not, Born: same, Place: open, One: api.KnownNo}},
		{nil, []change{otherNumber}, api.Match{Names: same, Number: not, Born: same, Place: same, One: api.KnownYes}},
		{nil, []change{otherNumber, likeName}, api.Match{Names: like, Number: not, Born: same, Place: same, One: api.KnownOpen}},
		{nil, []change{likeNumber, nowhere}, api.Match{Names: same, Number: like, Born: same, Place: open, One: api.KnownOpen}},
		{nil, []change{noNumber, nowhere}, api.Match{Names: same, Number: open, Born: same, Place: open, One: api.KnownOpen}},
		// A twin is excluded but with one number, or the same names.
		{[]change{twin}, []change{likeName, likeNumber}, api.Match{Names: like, Number: like, Born: same, Place: same, One: api.KnownNo}},
		{[]change{twin}, []change{likeName, noNumber}, api.Match{Names: like, Number: open, Born: same, Place: same, One: api.KnownNo}},
		{[]change{twin}, []change{likeName, otherNumber}, api.Match{Names: like, Number: not, Born: same, Place: same, One: api.KnownNo}},
		{[]change{twin}, []change{likeName}, api.Match{Names: like, Number: same, Born: same, Place: same, One: api.KnownYes}},
		{[]change{twin}, []change{otherName}, api.Match{Names: not, Number: same, Born: same, Place: same, One: api.KnownOpen}},
		{[]change{twin}, []change{twin, likeName, noNumber}, api.Match{Names: like, Number: open, Born: same, Place: same, One: api.KnownNo}},
		{nil, []change{likeName, noNumber}, api.Match{Names: like, Number: open, Born: same, Place: same, One: api.KnownOpen}},
		// One number, and names that are like each other, are one person's, wherever.
		{nil, []change{nowhere}, api.Match{Names: same, Number: same, Born: same, Place: open, One: api.KnownYes}},
		{nil, []change{likeName, nowhere, about}, api.Match{Names: like, Number: same, Born: open, Place: open, One: api.KnownYes}},
		{nil, []change{likeName, likeNumber}, api.Match{Names: like, Number: like, Born: same, Place: same, One: api.KnownOpen}},
		// The same names, birth and place are, but of a twin.
		{nil, []change{noNumber}, api.Match{Names: same, Number: open, Born: same, Place: same, One: api.KnownYes}},
		{nil, []change{likeNumber}, api.Match{Names: same, Number: like, Born: same, Place: same, One: api.KnownYes}},
		{nil, []change{noNumber, about}, api.Match{Names: same, Number: open, Born: open, Place: same, One: api.KnownOpen}},
		{[]change{twin}, []change{noNumber}, api.Match{Names: same, Number: open, Born: same, Place: same, One: api.KnownOpen}},
		{[]change{twin}, []change{twin, noNumber}, api.Match{Names: same, Number: open, Born: same, Place: same, One: api.KnownOpen}},
		{[]change{twin}, []change{otherNumber}, api.Match{Names: same, Number: not, Born: same, Place: same, One: api.KnownOpen}},
		{[]change{twin}, []change{otherNumber, nowhere}, api.Match{Names: same, Number: not, Born: same, Place: open, One: api.KnownNo}},
	} {
		if m, ok := compared(ordinary(), made(x.a...), made(x.b...)); !ok || m != x.want {
			t.Error(i, m, x.want)
		}
	}
}

// P1.2: all is as the chapter tells it, for records of all kinds, and Ids do
// not matter.
func TestCompareAsTold(t *testing.T) {
	r := newRandom(2)
	seen := map[api.Match]bool{}
	for range 40000 {
		rules, a, b := r.rules(), r.record(r.Intn(3)), r.record(r.Intn(3))
		m, ok := compared(rules, a, b)
		if !ok || m != told(rules, a, b) {
			t.Fatal(rules, a, b, m, told(rules, a, b))
		}
		a.Id, b.Id = b.Id, api.MaxId
		if n, ok := compared(rules, a, b); !ok || m != n {
			t.Fatal(rules, a, b, m, n)
		}
		seen[m] = true
	}
	if len(seen) < 40 {
		t.Error("the records are too much alike", len(seen))
	}
}

// P1.2: errors, of each of both records.
func TestCompareErrors(t *testing.T) {
	for i, c := range badChanges() {
		m, e := match.Compare(ordinary(), made(c), made())
		n, f := match.Compare(ordinary(), made(), made(c))
		if e != api.ErrRecord || f != api.ErrRecord || m != (api.Match{}) || n != (api.Match{}) {
			t.Error(i, m, e, n, f)
		}
	}
	for i, r := range badRules() {
		m, e := match.Compare(r, made(), made())
		n, f := match.Compare(r, api.Record{}, api.Record{})
		if e != api.ErrRules || f != api.ErrRules || m != (api.Match{}) || n != (api.Match{}) {
			t.Error(i, m, e, n, f)
		}
	}
}
