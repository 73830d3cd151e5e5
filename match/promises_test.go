package match_test

import (
	"testing"

	"goodname/api"
	"goodname/match"
)

// wrongWord returns a word with at most so many edits, that is still one.
func (r random) wrongWord(w string, most int) string {
	const letters = "ABCXYZ"
	for range r.Intn(most + 1) {
		i := r.Intn(len(w))
		c := string(letters[r.Intn(len(letters))])
		switch k := r.Intn(3); {
		case k == 0 && len(w) > 1:
			w = w[:i] + w[i+1:]
		case k == 1 && len(w) < api.MaxWord:
			w = w[:i] + c + w[i:]
		default:
			w = w[:i] + c + w[i+1:]
		}
	}
	return w
}

// wrong returns a record of a person, with half of what the rules allow wrong
// in each word, the number and the birth, found anywhere.
func (r random) wrong(rules api.Rules, a api.Record) api.Record {
	b := a
	b.Names = nil
	for _, w := range a.Names {
		b.Names = append(b.Names, r.wrongWord(w, rules.Letters/2))
	}
	digits := []byte(a.Number)
	for _, i := range r.Perm(api.MaxNumber)[:r.Intn(rules.Digits/2+1)] {
		digits[i] = byte('0' + r.Intn(10))
	}
	b.Number = string(digits)
	if r.Intn(5) == 0 {
		b.Number = ""
	}
	off := r.Intn(2*(rules.Days/2)+1) - rules.Days/2
	b.Born.Lo = a.Born.Lo + off - r.Intn(3)
	b.Born.Hi = a.Born.Lo + off + r.Intn(3)
	if r.Intn(3) == 0 {
		b.Suffix = api.SuffixNone
	}
	b.Stays = r.record(0).Stays
	return b
}

// P1.5: who is no twin is not excluded by what the rules allow.
func TestRecordsOfOnePersonAreNotExcluded(t *testing.T) {
	r := newRandom(5)
	for range 20000 {
		rules := api.Rules{Letters: r.Intn(6), Digits: r.Intn(6), Days: r.Intn(1001), Together: 1 + r.Intn(1000)}
		person := made(born(50000, 50000), suffix(uint8(r.Intn(3))))
		for i := range person.Names {
			person.Names[i] = r.word("ABCDE", 1, api.MaxWord)
		}
		a, b := r.wrong(rules, person), r.wrong(rules, person)
		if m, ok := compared(rules, a, b); !ok || m.One == api.KnownNo {
			t.Fatal(rules, a, b, m)
		}
	}
}

// P1.5: both records as wrong as they may be, in all at once.
func TestRecordsThatAreAsWrongAsTheyMayBe(t *testing.T) {
	rules := api.Rules{Letters: 4, Digits: 4, Days: 100, Together: 1000}
	a := made(names("STONEXX", "CARLAXX"), number("006813579"), born(3950, 3950), stays())
	b := made(names("STO", "CAR"), number("246813500"), born(4050, 4050), stays())
	want := api.Match{Names: like, Number: like, Born: open, Place: open, One: api.KnownOpen}
	if m, ok := compared(rules, a, b); !ok || m != want {
		t.Error(m)
	}
	for i, less := range []api.Rules{{Letters: 3, Digits: 4, Days: 100, Together: 1}, {Letters: 4, Digits: 3, Days: 100, Together: 1}, {Letters: 4, Digits: 4, Days: 99, Together: 1}} {
		if m, ok := compared(less, a, b); !ok || m.One != api.KnownNo {
			t.Error(i, m)
		}
	}
}

// P1.6: twins and juniors are told from each other, wherever they live.
func TestTwinsAndJuniorsAreToldApart(t *testing.T) {
	r := newRandom(6)
	found := [4]int{}
	for range 60000 {
		rules, a, b := r.rules(), r.record(1), r.record(2)
		if r.Intn(2) == 0 {
			b.Stays = a.Stays
		}
		m, ok := compared(rules, a, b)
		if !ok {
			t.Fatal(rules, a, b)
		}
		far := max(a.Born.Lo-b.Born.Hi, b.Born.Lo-a.Born.Hi) > rules.Days
		suffixes := a.Suffix != 0 && b.Suffix != 0 && a.Suffix != b.Suffix
		other := (a.Twin || b.Twin) && m.Names != same && m.Number != same
		for i, excluded := range []bool{far, suffixes, other} {
			if excluded {
				found[i]++
			}
			if excluded && m.One != api.KnownNo {
				t.Fatal(i, rules, a, b, m)
			}
		}
		if (a.Twin || b.Twin) && m.Number != same {
			found[3]++
			if m.One == api.KnownYes {
				t.Fatal("a twin without a number", rules, a, b, m)
			}
		}
	}
	for i, n := range found {
		if n < 100 {
			t.Error("too few were found", i, n)
		}
	}
}

// P1.6: a household is a mother, her daughter of that name, and twins, at one
// place for all their lives.
func TestHouseholdsAreKeptApart(t *testing.T) {
	at := stay(7, 0, api.MaxDay)
	l := []api.Record{
		made(at, id(1), names("STONE", "CARLA"), suffix(api.SuffixSenior), born(1000, 1000), number("100000001")),
		made(at, id(2), names("STONE", "CARLA"), suffix(api.SuffixJunior), born(9000, 9000), number("")),
		made(at, id(3), names("STONE", "ALMA"), born(12000, 12000), number(""), twin),
		made(at, id(4), names("STONE", "ALBA"), born(12000, 12000), number(""), twin),
		made(at, id(5), names("STONE", "CARLA"), born(9000, 9100), number("555555555")),
		made(at, id(6), names("REED", "OTTO"), born(9000, 9000), number("")),
	}
	sure, open, e := match.Pairs(api.Rules{Letters: 2, Digits: 5, Days: 1000, Together: 1}, l)
	if e != api.OK || len(sure) != 0 || len(open) != 1 || open[0] != [2]int{2, 5} {
		t.Error(sure, open, e)
	}
	if h, e := match.Homes(l, 5); e != api.OK || !sameHomes(h, [][]int{{1, 2, 3, 4, 5, 6}}) {
		t.Error(h, e)
	}
}

// P1.6: to live at one place makes nobody one person, if it is all there is.
func TestOnePlaceAloneIsNoPerson(t *testing.T) {
	r := newRandom(7)
	for range 30000 {
		rules, a, b := r.rules(), r.record(1), r.record(2)
		m, ok := compared(rules, a, b)
		if !ok || m.One == api.KnownYes && m.Number != same && (m.Names != same || m.Born != same) {
			t.Fatal(rules, a, b, m)
		}
		b.Stays = a.Stays
		n, ok := compared(rules, a, b)
		if !ok || n.One == api.KnownYes && n.Number != same && (n.Names != same || n.Born != same) {
			t.Fatal(rules, a, b, n)
		}
	}
}

// P1.8: rules that allow more exclude no more.
func TestRulesThatAllowMore(t *testing.T) {
	r := newRandom(8)
	for range 20000 {
		rules, a, b := r.rules(), r.record(1), r.record(2)
		more := rules
		more.Letters += r.Intn(api.MaxEdits - rules.Letters + 1)
		more.Digits += r.Intn(api.MaxEdits - rules.Digits + 1)
		more.Days += r.Intn(20)
		m, ok := compared(rules, a, b)
		n, well := compared(more, a, b)
		if !ok || !well || m.One != api.KnownNo && n.One == api.KnownNo || m.One == api.KnownYes && n.One != api.KnownYes {
			t.Fatal(rules, more, a, b, m, n)
		}
	}
}

// P1.8: a record agrees with itself.
func TestRecordsAgreeWithThemselves(t *testing.T) {
	r := newRandom(9)
	for range 10000 {
		rules, a := r.rules(), r.record(1)
		m, ok := compared(rules, a, a)
		known := m.Number == same
		if !ok || m.Names != same || known != (a.Number != "") || m.Born == not || m.One == api.KnownNo || known && m.One != api.KnownYes {
			t.Fatal(rules, a, m)
		}
	}
	// The strictest rules, for who has nothing but a name and a span of days.
	for i, c := range []change{twin, suffix(api.SuffixSenior), suffix(api.SuffixJunior)} {
		a := made(c, number(""), born(0, api.MaxDay), stays())
		if m, ok := compared(api.Rules{Together: api.MaxOff}, a, a); !ok || m != (api.Match{Names: same, Number: open, Born: open, Place: open, One: api.KnownOpen}) {
			t.Error(i, m)
		}
	}
}
