package file_test

import (
	"slices"
	"testing"

	"goodname/api"
	"goodname/file"
	"goodname/match"
)

// P2.6: no two records of a file are apart, all of them hang together by links
// that were followed, and each link between two files is blocked.
func TestFilesHoldWhatIsSurelyOnePersons(t *testing.T) {
	r := newRandom(6)
	for range 300 {
		s := r.story()
		a := ask(t, s)
		f := filed{files: a.files}
		if got := slices.Sorted(slices.Values(slices.Concat(a.files...))); !slices.Equal(got, s.ids()) {
			t.Fatal("each record is in one file", s, a.files)
		}
		for _, l := range a.files {
			if m, e := file.Mixed(s.rules, s.l, s.ops, l); e != api.OK || len(m) > 0 || len(s.mixed(l, l)) > 0 {
				t.Fatal("apart, in one file", s, l, m, e)
			}
			for _, id := range l {
				hangsTogether(t, s, a, l[0], id)
			}
		}
		for _, k := range s.links() {
			between := f.at(k.A) != f.at(k.B)
			if between != slices.Contains(a.blocked, k) {
				t.Fatal("between two files, and not blocked, or blocked in one", s, a, k)
			}
			if between && len(s.mixed(a.files[f.at(k.A)], a.files[f.at(k.B)])) == 0 {
				t.Fatal("blocked, and nobody is apart", s, a, k)
			}
		}
	}
}

// hangsTogether looks at each link of a way: it is one of the story's, none that
// was blocked, and goes on where the one before it ended.
func hangsTogether(t *testing.T, s story, a answers, from, to int) {
	t.Helper()
	at, been := from, []int{from}
	for _, k := range a.ways[[2]int{from, to}] {
		if !slices.Contains(s.links(), k) || slices.Contains(a.blocked, k) || at != k.A && at != k.B {
			t.Fatal(s, a, from, to, k)
		}
		at = k.A + k.B - at
		if slices.Contains(been, at) {
			t.Fatal("twice at one record", s, from, to, at)
		}
		been = append(been, at)
	}
	if at != to {
		t.Fatal("the way ends elsewhere", s, from, to, at)
	}
}

// undone returns an op that is added to a story, and so many undos, each one of
// the op before it. The op may be an undo of one of the story's ops.
func (r random) undone(s story, many int) (op api.Op, undos []api.Op) {
	id := opIds + r.Intn(5)
	a, b := r.twoIds()
	switch {
	case len(s.ops) > 0 && r.Intn(4) == 0:
		op = undo(id, pick(r, s.ops...).Id)
	case r.Intn(2) == 0:
		op = split(id, a, b)
	default:
		op = merge(id, a, b)
	}
	for i := range many {
		undos = append(undos, undo(2*opIds+10*i+r.Intn(10), id))
		id = undos[i].Id
	}
	return op, undos
}

// P2.7: an op and its undo leave all as it was, however often the undo is undone
// and undone again, and whatever records come later.
func TestUndoneOpsLeaveNothing(t *testing.T) {
	r := newRandom(7)
	changed := 0
	for range 120 {
		s := story{strict(), r.records(7), r.ops(10)}
		op, undos := r.undone(s, 4)
		later := slices.DeleteFunc(r.records(recordIds), func(a api.Record) bool { return slices.Contains(s.ids(), a.Id) })
		for _, l := range [][]api.Record{nil, s.l, mixedUp(r, slices.Concat(s.l, later[:len(later)/3])), mixedUp(r, slices.Concat(later[len(later)/2:], s.l))} {
			without := ask(t, story{s.rules, l, s.ops})
			with := ask(t, story{s.rules, l, mixedUp(r, append(slices.Clone(s.ops), op))})
			if !alike(with, without) {
				changed++
			}
			for n := range undos {
				want := without
				if n%2 == 1 {
					want = with
				}
				ops := mixedUp(r, slices.Concat(s.ops, []api.Op{op}, undos[:n+1]))
				if got := ask(t, story{s.rules, l, ops}); !alike(got, want) {
					t.Fatal(n, s, l, ops, got, want)
				}
			}
		}
	}
	if changed < 50 {
		t.Error("too few ops change anything", changed)
	}
}

// P2.7: an op of a record that comes later counts then, unless it was undone.
func TestUndoneBeforeItsRecordsCome(t *testing.T) {
	ops := []api.Op{merge(1, 1, 2), undo(2, 1), merge(3, 2, 3), split(4, 1, 3), undo(5, 4)}
	for i, x := range []struct {
		l    []api.Record
		want [][]int
	}{
		{strangers(1), [][]int{{1}}}, {strangers(1, 2), [][]int{{1}, {2}}}, {strangers(3, 1), [][]int{{1}, {3}}}, {strangers(3, 1, 2), [][]int{{1}, {2, 3}}},
	} {
		if f, e := file.Files(strict(), x.l, ops); e != api.OK || !sameFiles(f, x.want) {
			t.Error(i, f, e)
		}
	}
}

// P2.8: the order of records and ops does not matter.
func TestAnyOrder(t *testing.T) {
	r := newRandom(8)
	for range 100 {
		s := r.story()
		want := ask(t, s)
		for range 3 {
			got := ask(t, story{s.rules, mixedUp(r, s.l), mixedUp(r, s.ops)})
			if !alike(got, want) || !slices.Equal(got.active, want.active) {
				t.Fatal(s, got, want)
			}
		}
	}
}

// P2.9: a record without links is a file of its own, and changes no other one.
func TestRecordsWithoutLinks(t *testing.T) {
	r := newRandom(9)
	open := 0
	for range 150 {
		s := r.story()
		// No op of the story names this one.
		lone := moor(recordIds, pick(r, "", "000000000", "777777770"), pick(r, 99, 500))
		with := story{s.rules, mixedUp(r, append(slices.Clone(s.l), lone)), slices.Clone(s.ops)}
		with.ops = append(with.ops, split(opIds, r.Intn(recordIds), lone.Id))
		for _, id := range s.ids() {
			if with.one(id, lone.Id) == api.KnownOpen {
				open++
			}
		}
		before, after := ask(t, s), ask(t, with)
		if !sameFiles(after.files, append(slices.Clone(before.files), []int{lone.Id})) || !slices.Equal(after.blocked, before.blocked) {
			t.Fatal(s, lone, before, after)
		}
		if way, e := file.Why(with.rules, with.l, with.ops, lone.Id, lone.Id); e != api.OK || len(way) != 0 {
			t.Fatal(way, e)
		}
	}
	if open < 50 {
		t.Error("too few may be one person's", open)
	}
}

// filesOf asks for the files of a story alone.
func filesOf(t *testing.T, s story) filed {
	t.Helper()
	files, e := file.Files(s.rules, s.l, s.ops)
	if e != api.OK {
		t.Fatal(s, e)
	}
	return filed{files: files}
}

// P2.10: records that exclude each other are never in one file, though clerks
// merge as many of them as they can.
func TestRecordsThatExcludeEachOther(t *testing.T) {
	r := newRandom(10)
	found := 0
	for range 1000 {
		s := story{strict(), r.records(recordIds), nil}
		for id := range api.MaxOps {
			a, b := r.twoIds()
			s.ops = append(s.ops, merge(id, a, b))
		}
		f := filesOf(t, s)
		for _, a := range s.ids() {
			for _, b := range s.ids() {
				if a >= b || s.one(a, b) != api.KnownNo {
					continue
				}
				if found++; f.at(a) == f.at(b) {
					t.Fatal(s, f.files, a, b)
				}
			}
		}
	}
	if found < 1000 {
		t.Error("too few exclude each other", found)
	}
}

// P2.10: one number and names that are like each other are one file, where no
// two records are apart.
func TestOneNumberIsOneFile(t *testing.T) {
	r := newRandom(11)
	found := 0
	for range 1000 {
		s := story{strict(), r.records(recordIds), r.ops(5)}
		for i := range s.l {
			s.l[i].Names[1] = pick(r, "LENA", "LENE", "L")
			s.l[i].Number = pick(r, "", "777777777", "777777778")
			s.l[i].Born = api.Span{Lo: 100 + r.Intn(10), Hi: 110}
			s.l[i].Suffix, s.l[i].Twin = pick[uint8](r, 0, 1), false
		}
		if len(s.mixed(s.ids(), s.ids())) > 0 {
			continue
		}
		f := filesOf(t, s)
		for _, x := range s.l {
			for _, y := range s.l {
				m, _ := match.Compare(s.rules, x, y)
				if x.Id == y.Id || m.Number != api.AgreeSame || m.Names < api.AgreeLike {
					continue
				}
				if found++; f.at(x.Id) != f.at(y.Id) {
					t.Fatal(s, f.files, x, y)
				}
			}
		}
	}
	if found < 1000 {
		t.Error("too few have one number", found)
	}
}
