package file_test

import (
	"slices"
	"testing"

	"goodname/api"
	"goodname/file"
)

// P2.5: pairs that are apart, by rules and by splits, in any order of the file.
func TestMixed(t *testing.T) {
	l := append(row(4, 5, 6, 7), strangers(1, 2)...)
	for i, x := range []struct {
		ops  []api.Op
		file []int
		want [][2]int
	}{
		{nil, nil, nil}, {nil, []int{4}, nil}, {nil, []int{4, 4, 4}, nil}, {nil, []int{1, 2}, nil}, {nil, []int{4, 5}, nil},
		{nil, []int{4, 6}, [][2]int{{4, 6}}}, {nil, []int{6, 4}, [][2]int{{4, 6}}}, {nil, []int{6, 4, 6, 6, 4}, [][2]int{{4, 6}}},
		{nil, []int{7, 6, 5, 4}, [][2]int{{4, 6}, {4, 7}, {5, 7}}},
		{nil, []int{5, 1, 7, 4, 2, 5}, [][2]int{{1, 7}, {2, 7}, {4, 7}, {5, 7}}},
		// Splits count, if they are active and of records of the file.
		{[]api.Op{split(3, 1, 2)}, []int{2, 1}, [][2]int{{1, 2}}},
		{[]api.Op{split(3, 4, 6), split(8, 4, 6)}, []int{4, 6}, [][2]int{{4, 6}}},
		{[]api.Op{split(3, 1, 2), split(4, 4, 5)}, []int{1, 4, 2}, [][2]int{{1, 2}}},
		{[]api.Op{split(3, 1, 2), undo(4, 3)}, []int{2, 1}, nil},
		{[]api.Op{split(3, 1, 2), undo(4, 3), undo(5, 4)}, []int{2, 1}, [][2]int{{1, 2}}},
		{[]api.Op{split(3, 1, 2), undo(4, 3), split(5, 1, 2)}, []int{2, 1}, [][2]int{{1, 2}}},
		{[]api.Op{split(3, 4, 6), undo(4, 3)}, []int{4, 6}, [][2]int{{4, 6}}},
		{[]api.Op{split(3, 1, 9), split(4, 0, 2)}, []int{1, 2, 4}, nil},
		// Merges change nothing of it, followed or blocked.
		{[]api.Op{merge(3, 4, 6), merge(4, 1, 5)}, []int{6, 5, 4, 1}, [][2]int{{1, 6}, {4, 6}}},
		{[]api.Op{merge(3, 1, 2), merge(4, 2, 6)}, []int{1, 6, 2}, [][2]int{{1, 6}, {2, 6}}},
	} {
		for range 2 {
			if m, e := file.Mixed(strict(), l, x.ops, x.file); e != api.OK || !slices.Equal(m, x.want) {
				t.Error(i, m, e)
			}
			slices.Reverse(x.file)
			slices.Reverse(l)
		}
	}
}

// P2.5: one Id that is no record's is enough.
func TestMixedOfNoRecords(t *testing.T) {
	l := row(4, 5, 6)
	for i, f := range [][]int{{3}, {0}, {4, 6, 7}, {7, 4, 6}, {4, 7, 6}, {4, 5, 6, 8, 9}, {4, 4, 4, 44}} {
		if m, e := file.Mixed(strict(), l, []api.Op{merge(1, 6, 7), split(2, 7, 9)}, f); e != api.ErrNone || len(m) != 0 {
			t.Error(i, m, e)
		}
	}
	for _, n := range odd() {
		if m, e := file.Mixed(strict(), l, nil, []int{4, 6, n}); e != api.ErrNone || len(m) != 0 {
			t.Error(n, m, e)
		}
		if m, e := file.Mixed(strict(), nil, nil, []int{n}); e != api.ErrNone || len(m) != 0 {
			t.Error(n, m, e)
		}
	}
	if m, e := file.Mixed(strict(), nil, nil, nil); e != api.OK || len(m) != 0 {
		t.Error(m, e)
	}
}

// P2.5: as many pairs as there can be, of a file that names all often.
func TestMixedOfManyRecords(t *testing.T) {
	l := row(upTo(api.MaxRecords)...)
	var want [][2]int
	for _, a := range upTo(api.MaxRecords) {
		for _, b := range upTo(api.MaxRecords) {
			if b > a+1 {
				want = append(want, [2]int{a, b})
			}
		}
	}
	f := slices.Repeat(upTo(api.MaxRecords), 500)
	if m, e := file.Mixed(strict(), l, nil, f); e != api.OK || !slices.Equal(m, want) {
		t.Error(len(m), e)
	}
	slices.Reverse(f)
	if m, e := file.Mixed(strict(), l, nil, append(f, api.MaxRecords+1)); e != api.ErrNone || len(m) != 0 {
		t.Error(len(m), e)
	}
}

// P2.5: pairs are as the chapter defines them.
func TestMixedAsTold(t *testing.T) {
	r := newRandom(5)
	found := 0
	for range 1000 {
		s := r.story()
		var f []int
		for _, id := range append(s.ids(), s.ids()...) {
			if r.Intn(2) == 0 {
				f = append(f, id)
			}
		}
		f = mixedUp(r, f)
		m, e := file.Mixed(s.rules, s.l, s.ops, f)
		if e != api.OK || !slices.Equal(m, s.mixed(f, f)) {
			t.Fatal(s, f, m, e)
		}
		found += len(m)
	}
	if found < 1000 {
		t.Error("too few were found", found)
	}
}
