package file_test

import (
	"math/rand"
	"slices"
	"testing"

	"goodname/api"
	"goodname/file"
	"goodname/match"
)

func merge(id, a, b int) api.Op { return api.Op{Id: id, Kind: api.OpMerge, A: a, B: b} }
func split(id, a, b int) api.Op { return api.Op{Id: id, Kind: api.OpSplit, A: a, B: b} }
func undo(id, a int) api.Op     { return api.Op{Id: id, Kind: api.OpUndo, A: a} }

func byOp(a, b, op int) api.Link { return api.Link{A: a, B: b, Op: op} }
func byRules(a, b int) api.Link  { return byOp(a, b, api.ByRules) }

// strict are the rules of all tests but those of the chapter's examples.
func strict() api.Rules { return api.Rules{Letters: 1, Digits: 1, Days: 10, Together: 5} }

// moor is a record of a name, with a number, if it is known, and a birth.
func moor(id int, number string, born int) api.Record {
	return api.Record{Id: id, Names: []string{"MOOR", "LENA"}, Number: number, Born: api.Span{Lo: born, Hi: born}}
}

// strangers may be one person's, all of them, and no two of them surely are.
func strangers(ids ...int) []api.Record {
	var l []api.Record
	for _, id := range ids {
		l = append(l, moor(id, "", 100))
	}
	return l
}

// row has one number: who stand beside each other are surely one person's, and
// all others apart, by their births.
func row(ids ...int) []api.Record {
	var l []api.Record
	for i, id := range ids {
		l = append(l, moor(id, "777777777", 100+8*i))
	}
	return l
}

func upTo(n int) []int {
	var out []int
	for i := range n {
		out = append(out, i+1)
	}
	return out
}

func fill[T any](l []T, x T) {
	for i := range l {
		l[i] = x
	}
}

func sameFiles(a, b [][]int) bool { return slices.EqualFunc(a, b, slices.Equal[[]int]) }

// story is records and ops by rules, and what they say by the definitions.
type story struct {
	rules api.Rules
	l     []api.Record
	ops   []api.Op
}

// active is the definition: no undo that is active names it.
func (s story) active(op api.Op) bool {
	return !slices.ContainsFunc(s.ops, func(u api.Op) bool {
		return u.Kind == api.OpUndo && u.A == op.Id && s.active(u)
	})
}

func (s story) activeIds() []int {
	var out []int
	for _, op := range s.ops {
		if s.active(op) {
			out = append(out, op.Id)
		}
	}
	slices.Sort(out)
	return out
}

func (s story) record(id int) (api.Record, bool) {
	for _, a := range s.l {
		if a.Id == id {
			return a, true
		}
	}
	return api.Record{}, false
}

// one tells by match.Compare whether two records are one person's.
func (s story) one(a, b int) uint8 {
	x, _ := s.record(a)
	y, _ := s.record(b)
	m, _ := match.Compare(s.rules, x, y)
	return m.One
}

func (s story) apart(a, b int) bool {
	splits := func(op api.Op) bool {
		return op.Kind == api.OpSplit && (op.A == a && op.B == b || op.A == b && op.B == a) && s.active(op)
	}
	return s.one(a, b) == api.KnownNo || slices.ContainsFunc(s.ops, splits)
}

// ids are the records' Ids in ascending order.
func (s story) ids() []int {
	var out []int
	for _, a := range s.l {
		out = append(out, a.Id)
	}
	slices.Sort(out)
	return out
}

func (s story) links() []api.Link {
	var out []api.Link
	for _, op := range s.ops {
		_, hasA := s.record(op.A)
		_, hasB := s.record(op.B)
		if op.Kind == api.OpMerge && hasA && hasB && s.active(op) {
			out = append(out, byOp(op.A, op.B, op.Id))
		}
	}
	slices.SortFunc(out, func(a, b api.Link) int { return a.Op - b.Op })
	for _, a := range s.ids() {
		for _, b := range s.ids() {
			if a < b && s.one(a, b) == api.KnownYes {
				out = append(out, byRules(a, b))
			}
		}
	}
	return out
}

// filed is what becomes of the links of a story.
type filed struct {
	files             [][]int
	followed, blocked []api.Link
}

// at returns where in the files a record is.
func (f filed) at(id int) int {
	return slices.IndexFunc(f.files, func(l []int) bool { return slices.Contains(l, id) })
}

// file takes the links of a story one after the other.
func (s story) file() filed {
	var f filed
	for _, id := range s.ids() {
		f.files = append(f.files, []int{id})
	}
	for _, k := range s.links() {
		i, j := f.at(k.A), f.at(k.B)
		if i == j {
			continue
		}
		if len(s.mixed(f.files[i], f.files[j])) > 0 {
			f.blocked = append(f.blocked, k)
			continue
		}
		f.followed = append(f.followed, k)
		both := slices.Sorted(slices.Values(slices.Concat(f.files[i], f.files[j])))
		f.files[min(i, j)] = both
		f.files = slices.Delete(f.files, max(i, j), max(i, j)+1)
	}
	return f
}

// mixed returns the pairs of a record of the one list and one of the other that
// are apart, the lesser Id first, in their order.
func (s story) mixed(a, b []int) [][2]int {
	var out [][2]int
	for _, x := range a {
		for _, y := range b {
			pair := [2]int{min(x, y), max(x, y)}
			if x != y && s.apart(x, y) && !slices.Contains(out, pair) {
				out = append(out, pair)
			}
		}
	}
	slices.SortFunc(out, func(x, y [2]int) int { return slices.Compare(x[:], y[:]) })
	return out
}

// way returns the links between two records: of all ways over links that were
// followed the first one that is found. There is one at most.
func (f filed) way(a, b int, been ...int) ([]api.Link, bool) {
	if a == b {
		return nil, true
	}
	for _, k := range f.followed {
		for _, step := range [][2]int{{k.A, k.B}, {k.B, k.A}} {
			if step[0] != a || slices.Contains(been, step[1]) {
				continue
			}
			if rest, ok := f.way(step[1], b, append(slices.Clone(been), a)...); ok {
				return append([]api.Link{k}, rest...), true
			}
		}
	}
	return nil, false
}

// random makes stories that have files, blocked links and ways of all kinds.
type random struct{ *rand.Rand }

func newRandom(seed int64) random { return random{rand.New(rand.NewSource(seed))} }

func pick[T any](r random, l ...T) T { return l[r.Intn(len(l))] }

func mixedUp[T any](r random, l []T) []T {
	out := slices.Clone(l)
	r.Shuffle(len(out), func(i, j int) { out[i], out[j] = out[j], out[i] })
	return out
}

// Records and ops of a story have Ids below these.
const (
	recordIds = 12
	opIds     = 100
)

func (r random) record(id int) api.Record {
	a := moor(id, pick(r, "", "", "", "777777777", "777777777", "777777778"), 100+r.Intn(13))
	a.Names[1] = pick(r, "LENA", "LENA", "LENA", "LENE", "L")
	a.Born.Hi += pick(r, 0, 0, 0, 4)
	a.Suffix = pick[uint8](r, 0, 0, 0, 0, 0, 0, 0, 0, 0, 1, 2)
	a.Twin = r.Intn(20) == 0
	if r.Intn(2) == 0 {
		a.Stays = []api.Stay{{Place: 1 + r.Intn(2), From: r.Intn(4), To: 5 + r.Intn(9)}}
	}
	if r.Intn(8) == 0 {
		a.Number, a.Names[1] = "444444444", pick(r, "LENA", "OTTO")
	}
	return a
}

func (r random) records(most int) []api.Record {
	var l []api.Record
	n := pick(r, r.Intn(most+1), (most+1)/2, most)
	for _, id := range r.Perm(recordIds)[:n] {
		l = append(l, r.record(id))
	}
	return l
}

// ops name records that a story may have, whether it has them or not.
func (r random) ops(most int) []api.Op {
	ids := r.Perm(opIds)[:r.Intn(most+1)]
	slices.Sort(ids)
	var ops []api.Op
	for i, id := range ids {
		a, b := r.twoIds()
		switch {
		case i > 0 && r.Intn(4) == 0:
			ops = append(ops, undo(id, ids[r.Intn(i)]))
		case r.Intn(4) == 0:
			ops = append(ops, split(id, a, b))
		default:
			ops = append(ops, merge(id, a, b))
		}
	}
	return mixedUp(r, ops)
}

// twoIds returns different Ids of records, the lesser one first.
func (r random) twoIds() (a, b int) {
	l := r.Perm(recordIds)[:2]
	return min(l[0], l[1]), max(l[0], l[1])
}

func (r random) story() story { return story{strict(), r.records(recordIds), r.ops(16)} }

// answers are those of all functions for a story.
type answers struct {
	active  []int
	files   [][]int
	blocked []api.Link
	ways    map[[2]int][]api.Link
	mixed   [][2]int
}

// ask calls all functions for a story, and tells of errors that should not be.
func ask(t *testing.T, s story) answers {
	t.Helper()
	out := answers{ways: map[[2]int][]api.Link{}}
	var e [4]api.Errno
	out.active, e[0] = file.Active(s.ops)
	out.files, e[1] = file.Files(s.rules, s.l, s.ops)
	out.blocked, e[2] = file.Blocked(s.rules, s.l, s.ops)
	out.mixed, e[3] = file.Mixed(s.rules, s.l, s.ops, s.ids())
	if f := file.Check(s.rules, s.l, s.ops); f != api.OK || e != [4]api.Errno{} {
		t.Fatal(s, f, e)
	}
	f := filed{files: out.files}
	for _, a := range s.ids() {
		for _, b := range s.ids() {
			way, e := file.Why(s.rules, s.l, s.ops, a, b)
			want := api.OK
			if f.at(a) != f.at(b) {
				want = api.ErrNone
			}
			if e != want || e != api.OK && len(way) > 0 || a == b && len(way) > 0 {
				t.Fatal(s, a, b, way, e)
			}
			if e == api.OK {
				out.ways[[2]int{a, b}] = way
			}
		}
	}
	return out
}

// alike compares answers but for the ops that are active.
func alike(a, b answers) bool {
	if len(a.ways) != len(b.ways) {
		return false
	}
	for pair, way := range a.ways {
		other, ok := b.ways[pair]
		if !ok || !slices.Equal(way, other) {
			return false
		}
	}
	return sameFiles(a.files, b.files) && slices.Equal(a.blocked, b.blocked) && slices.Equal(a.mixed, b.mixed)
}
