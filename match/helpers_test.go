package match_test

import (
	"math"
	"math/rand"
	"slices"
	"strings"

	"goodname/api"
	"goodname/match"
)

// change is done to a record before it is used.
type change func(a *api.Record)

// made returns a valid record with changes, all of its memory its own.
func made(changes ...change) api.Record {
	a := api.Record{
		Id:     1,
		Names:  []string{"STONE", "CARLA", "IRIS"},
		Born:   api.Span{Lo: 4000, Hi: 4000},
		Number: "246813579",
		Stays:  []api.Stay{{Place: 12, From: 100, To: 199}, {Place: 34, From: 200, To: 299}},
	}
	for _, f := range changes {
		f(&a)
	}
	return a
}

func id(n int) change             { return func(a *api.Record) { a.Id = n } }
func names(l ...string) change    { return func(a *api.Record) { a.Names = l } }
func suffix(n uint8) change       { return func(a *api.Record) { a.Suffix = n } }
func born(lo, hi int) change      { return func(a *api.Record) { a.Born = api.Span{Lo: lo, Hi: hi} } }
func number(n string) change      { return func(a *api.Record) { a.Number = n } }
func stays(l ...api.Stay) change  { return func(a *api.Record) { a.Stays = l } }
func twin(a *api.Record)          { a.Twin = true }
func stay(p, from, to int) change { return stays(api.Stay{Place: p, From: from, To: to}) }

func ordinary() api.Rules { return api.Rules{Letters: 2, Digits: 2, Days: 20, Together: 10} }

// odd are numbers that are not what a field takes, of whatever size: some are
// valid ones in fewer bits.
func odd(lo, hi int) []int {
	return []int{lo - 1, hi + 1, math.MinInt, math.MaxInt, math.MinInt + 1, math.MaxInt - 1, 1<<32 + lo, -(1 << 32) + hi, -1 << 31}
}

func badRules() []api.Rules {
	var out []api.Rules
	for _, n := range odd(0, api.MaxEdits) {
		out = append(out, api.Rules{Letters: n, Together: 1}, api.Rules{Digits: n, Together: 1})
	}
	for _, n := range odd(0, api.MaxOff) {
		out = append(out, api.Rules{Days: n, Together: 1})
	}
	for _, n := range append(odd(1, api.MaxOff), 0) {
		out = append(out, api.Rules{Together: n})
	}
	return out
}

// badChanges make a record invalid, each for one reason alone.
func badChanges() []change {
	full := strings.Repeat("Q", api.MaxWord)
	out := []change{
		names(), names(""), names("", "ANN"), names("STONE", ""), names("A", "B", "C", "D", "E", "F"),
		names(full + "Q"), names("STONE", full+"Q"), names("Stone"), names("STONE", "ANN@"), names("STONE", "ANN["),
		names("STONE", "A N"), names("STONE", "1"), names("STONE", "\x00"), names("STÖNE"), names("STONE", "A", "B", "C", "é"), names("\xff"),
		number("12345678"), number("1234567890"), number("0"), number("12345678/"), number(":12345678"), number("1234 6789"), number("-12345678"), number("123456789\x00"), number("12345678é"),
		stays(make([]api.Stay, api.MaxStays+1)...),
		born(5, 4), born(api.MaxDay, 0), born(api.MaxDay+1, api.MaxDay+1), born(-2, -1),
		stay(1, 5, 4), stay(1, api.MaxDay, 0), stay(1, -2, -1), stay(1, api.MaxDay+1, api.MaxDay+1),
	}
	for _, n := range odd(0, api.MaxId) {
		out = append(out, id(n))
	}
	for _, n := range []uint8{3, 4, 128, 255} {
		out = append(out, suffix(n))
	}
	for _, n := range odd(0, api.MaxDay) {
		out = append(out, born(n, 50), born(50, n), stay(1, n, 50), stay(1, 50, n))
	}
	for _, n := range odd(0, api.MaxPlace) {
		last := api.Stay{Place: n, From: 1, To: 2}
		out = append(out, stays(last), stays(api.Stay{}, api.Stay{}, api.Stay{}, api.Stay{}, api.Stay{}, last))
	}
	return out
}

// random makes records that have much to do with each other.
type random struct{ *rand.Rand }

func newRandom(seed int64) random { return random{rand.New(rand.NewSource(seed))} }

func (r random) word(letters string, least, most int) string {
	var b strings.Builder
	for range least + r.Intn(most-least+1) {
		b.WriteByte(letters[r.Intn(len(letters))])
	}
	return b.String()
}

func (r random) rules() api.Rules {
	return api.Rules{Letters: r.Intn(api.MaxEdits + 1), Digits: r.Intn(api.MaxEdits + 1), Days: r.Intn(8), Together: 1 + r.Intn(6)}
}

func (r random) record(id int) api.Record {
	a := api.Record{Id: id, Suffix: uint8(r.Intn(12)), Twin: r.Intn(4) == 0}
	if a.Suffix > api.SuffixJunior {
		a.Suffix = api.SuffixNone
	}
	pool := []string{"A", "B", "AB", "ABB", "BAAB", "ABABA", "BBBBBBBB"}
	for range 1 + r.Intn(api.MaxWords) {
		a.Names = append(a.Names, pool[r.Intn(len(pool))])
	}
	if r.Intn(2) == 0 {
		a.Names[0] = pool[3]
	}
	a.Born.Lo = 20 + r.Intn(6)
	a.Born.Hi = a.Born.Lo + max(0, r.Intn(8)-4)
	if r.Intn(4) != 0 {
		a.Number = strings.Repeat("7", 4) + r.word("78", 5, 5)
	}
	for range r.Intn(api.MaxStays + 1) {
		from := r.Intn(30)
		a.Stays = append(a.Stays, api.Stay{Place: r.Intn(4), From: from, To: from + r.Intn(10)})
	}
	return a
}

func (r random) records() []api.Record {
	var l []api.Record
	for _, n := range r.Perm(40)[:r.Intn(api.MaxRecords+1)] {
		l = append(l, r.record(n))
	}
	return l
}

// toldEdits is the definition of edits, without rows.
func toldEdits(a, b string) int {
	known := map[[2]int]int{}
	var from func(i, j int) int
	from = func(i, j int) int {
		if i == len(a) || j == len(b) {
			return len(a) - i + len(b) - j
		}
		if n, ok := known[[2]int{i, j}]; ok {
			return n
		}
		n := 1 + min(from(i+1, j), from(i, j+1), from(i+1, j+1))
		if a[i] == b[j] {
			n = min(n, from(i+1, j+1))
		}
		known[[2]int{i, j}] = n
		return n
	}
	return from(0, 0)
}

func toldSame(a, b string) bool {
	return a == b || len(a) == 1 && strings.HasPrefix(b, a) || len(b) == 1 && strings.HasPrefix(a, b)
}

// toldFollow tries each way to lay few on many.
func toldFollow(few, many []string, fit func(a, b string) bool) bool {
	if len(few) == 0 {
		return true
	}
	for i := range many {
		if fit(few[0], many[i]) && toldFollow(few[1:], many[i+1:], fit) {
			return true
		}
	}
	return false
}

func toldNames(r api.Rules, a, b api.Record) uint8 {
	few, many := a.Names, b.Names
	if len(few) > len(many) {
		few, many = many, few
	}
	like := func(a, b string) bool { return toldSame(a, b) || toldEdits(a, b) <= r.Letters }
	if few[0] == many[0] && toldFollow(few[1:], many[1:], toldSame) {
		return api.AgreeSame
	}
	if toldEdits(few[0], many[0]) <= r.Letters && toldFollow(few[1:], many[1:], like) {
		return api.AgreeLike
	}
	return api.AgreeNot
}

func toldNumber(r api.Rules, a, b api.Record) uint8 {
	if a.Number == "" || b.Number == "" {
		return api.AgreeOpen
	}
	differ := 0
	for i := range a.Number {
		if a.Number[i] != b.Number[i] {
			differ++
		}
	}
	if differ == 0 {
		return api.AgreeSame
	}
	if differ <= r.Digits {
		return api.AgreeLike
	}
	return api.AgreeNot
}

// toldBorn looks at each day of both.
func toldBorn(r api.Rules, a, b api.Record) uint8 {
	if a.Born.Lo == a.Born.Hi && b.Born.Lo == b.Born.Hi && a.Born.Lo == b.Born.Lo {
		return api.AgreeSame
	}
	for x := a.Born.Lo; x <= a.Born.Hi; x++ {
		for y := b.Born.Lo; y <= b.Born.Hi; y++ {
			if max(x-y, y-x) <= r.Days {
				return api.AgreeOpen
			}
		}
	}
	return api.AgreeNot
}

// toldPlace counts the days.
func toldPlace(r api.Rules, a, b api.Record) uint8 {
	for _, s := range a.Stays {
		for _, t := range b.Stays {
			days := 0
			for day := s.From; day <= s.To; day++ {
				if s.Place == t.Place && t.From <= day && day <= t.To {
					days++
				}
			}
			if days >= r.Together {
				return api.AgreeSame
			}
		}
	}
	return api.AgreeOpen
}

func told(r api.Rules, a, b api.Record) api.Match {
	m := api.Match{Names: toldNames(r, a, b), Number: toldNumber(r, a, b), Born: toldBorn(r, a, b), Place: toldPlace(r, a, b)}
	no := m.Born == api.AgreeNot ||
		a.Suffix+b.Suffix == api.SuffixSenior+api.SuffixJunior ||
		m.Names == api.AgreeNot && m.Number != api.AgreeSame ||
		m.Number == api.AgreeNot && m.Place != api.AgreeSame ||
		(a.Twin || b.Twin) && m.Number != api.AgreeSame && m.Names != api.AgreeSame
	yes := m.Number == api.AgreeSame && m.Names >= api.AgreeLike ||
		m.Names == api.AgreeSame && m.Born == api.AgreeSame && m.Place == api.AgreeSame && !a.Twin && !b.Twin
	m.One = api.KnownOpen
	if yes {
		m.One = api.KnownYes
	}
	if no {
		m.One = api.KnownNo
	}
	return m
}

func toldPairs(r api.Rules, l []api.Record, one uint8) [][2]int {
	var out [][2]int
	for _, a := range l {
		for _, b := range l {
			if a.Id < b.Id && told(r, a, b).One == one {
				out = append(out, [2]int{a.Id, b.Id})
			}
		}
	}
	slices.SortFunc(out, func(x, y [2]int) int { return slices.Compare(x[:], y[:]) })
	return out
}

// toldHomes asks for each place and each Id.
func toldHomes(l []api.Record, day, places, ids int) [][]int {
	var out [][]int
	for place := range places {
		var home []int
		for id := range ids {
			for _, a := range l {
				at := func(s api.Stay) bool { return s.Place == place && s.From <= day && day <= s.To }
				if a.Id == id && slices.ContainsFunc(a.Stays, at) {
					home = append(home, id)
				}
			}
		}
		if home != nil {
			out = append(out, home)
		}
	}
	return out
}

func sameHomes(a, b [][]int) bool { return slices.EqualFunc(a, b, slices.Equal[[]int]) }

// compared is Compare of valid records, both ways: ok is false if these differ,
// or there is an error.
func compared(r api.Rules, a, b api.Record) (m api.Match, ok bool) {
	m, e := match.Compare(r, a, b)
	n, f := match.Compare(r, b, a)
	return m, e == api.OK && f == api.OK && m == n
}
