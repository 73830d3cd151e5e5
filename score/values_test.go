package score_test

import (
	"math"
	"reflect"
	"slices"
	"testing"

	"goodname/api"
	"goodname/score"
)

// answers are all that the functions answer.
type answers struct {
	check    api.Errno
	scored   scored
	points   []int
	pointsE  api.Errno
	between  api.Span
	betweenE api.Errno
	reasoned reasoned
}

func askAll(m api.Model, x []int, spans []api.Span) answers {
	a := answers{check: score.Check(m), scored: scoreOf(m, x...), reasoned: reasonsOf(m, x...)}
	a.points, a.pointsE = score.Points(m, x)
	a.between, a.betweenE = score.Between(m, spans)
	return a
}

func (a answers) is(b answers) bool {
	return a.check == b.check && a.scored == b.scored && slices.Equal(a.points, b.points) && a.pointsE == b.pointsE &&
		a.between == b.between && a.betweenE == b.betweenE && a.reasoned.is(b.reasoned)
}

// roomOf is a list that goes on behind its last element.
func roomOf[T any](l []T, more ...T) []T {
	return append(slices.Clone(l), more...)[:len(l)]
}

// whole returns a copy of all of a list, what is behind its last element too.
func whole[T any](l []T) []T { return slices.Clone(l[:cap(l)]) }

// roomy is a model whose lists all go on behind their last elements, with what is
// not valid, or would change scores.
func roomy(m api.Model) api.Model {
	m = copied(m)
	for i := range m.Cards {
		for k, s := range m.Cards[i].Scales {
			m.Cards[i].Scales[k] = api.Scale{Cuts: roomOf(s.Cuts, 77, -5), Points: roomOf(s.Points, 900, 901), None: s.None}
		}
		m.Cards[i].Scales = roomOf(m.Cards[i].Scales, scale(1, 5), api.Scale{})
	}
	for i := range m.Trees {
		m.Trees[i].Nodes = roomOf(m.Trees[i].Nodes, leaf(800), api.Node{Trait: -9})
	}
	m.Cards = roomOf(m.Cards, api.Card{Weight: -1}, api.Card{Base: 3})
	m.Trees = roomOf(m.Trees, api.Tree{Weight: -1}, tree(1000, leaf(7)))
	return m
}

// wholeModel is a copy of all of a model, what is behind the last elements too.
func wholeModel(m api.Model) api.Model {
	cards, trees := len(m.Cards), len(m.Trees)
	m.Cards, m.Trees = whole(m.Cards), whole(m.Trees)
	for i := range m.Cards[:cards] {
		c := &m.Cards[i]
		scales := len(c.Scales)
		c.Scales = whole(c.Scales)
		for k, s := range c.Scales[:scales] {
			c.Scales[k].Cuts, c.Scales[k].Points = whole(s.Cuts), whole(s.Points)
		}
	}
	for i := range m.Trees[:trees] {
		m.Trees[i].Nodes = whole(m.Trees[i].Nodes)
	}
	return m
}

// P6.1 to P6.3, R3: no argument is written to, nor what is behind a list's last
// element, and that does not count.
func TestArgumentsAreNotWrittenTo(t *testing.T) {
	r := newRandom(14)
	for range 300 {
		m := r.model(1 + r.Intn(4))
		x, spans := r.values(m.Traits), r.spans(m.Traits)
		want := askAll(m, x, spans)
		m2, x2, spans2 := roomy(m), roomOf(x, 5, -3), roomOf(spans, span(1, 0), span(2, 9))
		m3, x3, spans3 := wholeModel(m2), whole(x2), whole(spans2)
		for range 2 {
			if got := askAll(m2, x2, spans2); !got.is(want) {
				t.Fatal(m, x, spans, got, want)
			}
		}
		if !reflect.DeepEqual(wholeModel(m2), m3) || !slices.Equal(whole(x2), x3) || !slices.Equal(whole(spans2), spans3) {
			t.Fatal("written to", m2, m3, x2, x3, spans2, spans3)
		}
	}
}

// fill writes to a list, within its capacity too.
func fill(l []int) {
	l = l[:cap(l)]
	for i := range l {
		l[i] = -77
	}
}

// R3: results share no memory with arguments, nor with each other, and no call
// remembers another one.
func TestResultsShareNoMemory(t *testing.T) {
	r := newRandom(15)
	for range 300 {
		m := r.model(1 + r.Intn(4))
		x, spans := r.values(m.Traits), r.spans(m.Traits)
		before, y := wholeModel(m), slices.Clone(x)
		first, want := askAll(m, x, spans), askAll(m, x, spans)
		values := slices.Clone(first.reasoned.values)
		fill(first.reasoned.traits)
		if !slices.Equal(first.reasoned.values, values) {
			t.Fatal("traits and values share memory", m, x)
		}
		fill(first.reasoned.values)
		fill(first.points)
		askAll(r.model(2), []int{1, 2}, r.spans(2))
		askAll(api.Model{}, nil, nil)
		askAll(m, []int{-9}, nil)
		if got := askAll(m, x, spans); !got.is(want) || !slices.Equal(x, y) || !reflect.DeepEqual(wholeModel(m), before) {
			t.Fatal(m, x, spans, got, want)
		}
	}
}

// R4: lists that are nil and that are empty are the same.
func TestNilAndEmpty(t *testing.T) {
	bare := api.Model{Traits: 1, Need: 1, Cards: []api.Card{card(1000, 1, api.Scale{Points: []int{1}})}}
	empty := with(bare, func(m *api.Model) { m.Cards[0].Scales[0].Cuts, m.Trees = []int{}, []api.Tree{} })
	x, spans := []int{4}, []api.Span{span(2, 3)}
	a, b := askAll(bare, x, spans), askAll(empty, x, spans)
	if !a.is(b) || a.scored != (scored{2000, true, api.OK}) {
		t.Error(a, b)
	}
	a, b = askAll(api.Model{Traits: 1}, x, spans), askAll(api.Model{Traits: 1, Cards: []api.Card{}, Trees: []api.Tree{}}, x, spans)
	if !a.is(b) || a.scored != (scored{0, true, api.OK}) {
		t.Error(a, b)
	}
	a, b = askAll(bare, nil, nil), askAll(bare, []int{}, []api.Span{})
	if !a.is(b) || a.scored.e != api.ErrValues || a.betweenE != api.ErrValues {
		t.Error(a, b)
	}
	if e := score.Check(with(bare, func(m *api.Model) { m.Trees = []api.Tree{{Nodes: []api.Node{}}} })); e != api.ErrModel {
		t.Error(e)
	}
}

// mostly is the first number in most cases, and now and then another one.
func (r random) mostly(n int, others ...int) int {
	if r.Intn(60) > 0 {
		return n
	}
	return pick(r, others...)
}

// number is one from lo to hi in most cases.
func (r random) number(lo, hi int) int {
	return r.mostly(lo+r.Intn(hi-lo+1), lo-1, hi+1, -1, 0, api.MaxValue, api.MaxValue+1, api.MaxWeight+1, -api.MaxPoints-1, math.MinInt, math.MaxInt, 1<<32+1, -1<<32)
}

func (r random) numbers(n, lo, hi int) []int {
	var l []int
	for range n {
		l = append(l, r.number(lo, hi))
	}
	return l
}

// anyScale is one of any numbers, whose cuts are in order in most cases.
func (r random) anyScale() api.Scale {
	cuts := r.numbers(r.mostly(r.Intn(api.MaxCuts+1), api.MaxCuts+1), 1, 4)
	if r.mostly(1, 0) == 1 {
		slices.Sort(cuts)
		cuts = slices.Compact(cuts)
	}
	return api.Scale{Cuts: cuts, Points: r.numbers(r.mostly(len(cuts)+1, len(cuts), len(cuts)+2), -2, 2), None: r.number(-2, 2)}
}

// anything is a model of any numbers. Its trees have a question and two leaves.
func (r random) anything() api.Model {
	m := api.Model{Traits: r.number(1, 3), Need: r.number(-2, 2)}
	traits := min(max(m.Traits, 1), api.MaxTraits)
	for range r.mostly(r.Intn(api.MaxCards+1), api.MaxCards+1) {
		c := card(r.number(0, 3), r.number(-2, 2))
		for range r.mostly(traits, traits-1, traits+1) {
			c.Scales = append(c.Scales, r.anyScale())
		}
		m.Cards = append(m.Cards, c)
	}
	for range r.mostly(r.Intn(api.MaxTrees+1), api.MaxTrees+1) {
		low := 1 + r.Intn(2)
		first := ask(r.number(0, traits-1), r.number(1, 4), r.number(low, low), r.number(3-low, 3-low))
		m.Trees = append(m.Trees, tree(r.number(0, 3), first, leaf(r.number(-2, 2)), leaf(r.number(-2, 2))))
	}
	return m
}

// inRange tells whether all numbers are in a range.
func inRange(lo, hi int, l ...int) bool {
	return !slices.ContainsFunc(l, func(n int) bool { return n < lo || n > hi })
}

// isValid tells again whether a model of any numbers is valid.
func isValid(m api.Model) bool {
	ok := inRange(1, 5, m.Traits) && inRange(-1e6, 1e6, m.Need) && len(m.Cards) < 3 && len(m.Trees) < 3
	for _, c := range m.Cards {
		ok = ok && inRange(0, 1000, c.Weight) && inRange(-1e6, 1e6, c.Base) && len(c.Scales) == m.Traits
		for _, s := range c.Scales {
			ok = ok && len(s.Cuts) < 4 && len(s.Points)-1 == len(s.Cuts) && inRange(1, 1e6, s.Cuts...) && inRange(-1e6, 1e6, s.Points...) && inRange(-1e6, 1e6, s.None)
			for i := range s.Cuts {
				ok = ok && !slices.Contains(s.Cuts[:i], s.Cuts[i])
			}
			ok = ok && slices.IsSorted(s.Cuts)
		}
	}
	for _, x := range m.Trees {
		n := x.Nodes[0]
		ok = ok && inRange(0, 1000, x.Weight) && inRange(0, m.Traits-1, n.Trait) && inRange(1, 1e6, n.Cut)
		ok = ok && (n.Low == 1 && n.High == 2 || n.Low == 2 && n.High == 1)
		ok = ok && inRange(-1e6, 1e6, x.Nodes[1].Points, x.Nodes[2].Points)
	}
	return ok
}

// errorsOf tells again the errors of Score, Points and Reasons, which are the same
// if there may be reasons, and of Between.
func errorsOf(m api.Model, x []int, spans []api.Span) (ofValues, ofSpans api.Errno) {
	if !isValid(m) {
		return api.ErrModel, api.ErrModel
	}
	if len(x) != m.Traits || !inRange(-1, 1e6, x...) {
		ofValues = api.ErrValues
	}
	if len(spans) != m.Traits || slices.ContainsFunc(spans, func(s api.Span) bool { return s.Lo > s.Hi || !inRange(0, 1e6, s.Lo, s.Hi) }) {
		ofSpans = api.ErrValues
	}
	return ofValues, ofSpans
}

// expected is what all functions have to answer. Reasons and spans, which are tried
// elsewhere, are as they were answered if they may be.
func expected(m api.Model, x []int, spans []api.Span, got answers) answers {
	e, f := errorsOf(m, x, spans)
	want := answers{scored: scored{e: e}, pointsE: e, reasoned: reasoned{e: e}, betweenE: f}
	if !isValid(m) {
		want.check = api.ErrModel
	}
	if e == api.OK {
		want.scored, want.points = scored{sumOf(m, x), answerOf(m, x), api.OK}, pointsOf(m, x)
		want.reasoned = reasoned{e: api.ErrNone}
		if len(got.reasoned.traits) > 0 {
			want.reasoned = reasoned{got.reasoned.traits, got.reasoned.values, api.OK}
		}
	}
	if f == api.OK {
		want.between = got.between
	}
	return want
}

// R2, R5 and R7: whatever the arguments are, each call ends, none panics, and
// beside an error is nothing.
func TestAnyArguments(t *testing.T) {
	r := newRandom(16)
	seen := map[api.Errno]int{}
	for range 30000 {
		m := r.anything()
		n := min(max(m.Traits, 0), api.MaxTraits)
		x := r.numbers(r.mostly(n, n+1, 0), -1, 5)
		var spans []api.Span
		for _, lo := range r.numbers(r.mostly(n, n+1, 0), 0, 5) {
			spans = append(spans, span(lo, r.number(5, 9)))
		}
		got := askAll(m, x, spans)
		if want := expected(m, x, spans, got); !got.is(want) {
			t.Fatal(m, x, spans, got, want)
		}
		for _, e := range []api.Errno{got.check, got.scored.e, got.betweenE, got.reasoned.e} {
			seen[e]++
		}
	}
	for _, e := range []api.Errno{api.OK, api.ErrNone, api.ErrModel, api.ErrValues} {
		if seen[e] < 1000 {
			t.Error("too few", e, seen)
		}
	}
}
