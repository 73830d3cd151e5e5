package file_test

import (
	"slices"
	"testing"

	"goodname/api"
	"goodname/file"
)

// filing is a story, and which files and blocked links there are.
type filing struct {
	name    string
	l       []api.Record
	ops     []api.Op
	files   [][]int
	blocked []api.Link
}

func checkFilings(t *testing.T, filings []filing) {
	t.Helper()
	r := newRandom(2)
	for _, x := range filings {
		for range 5 {
			f, e := file.Files(strict(), x.l, x.ops)
			b, g := file.Blocked(strict(), x.l, x.ops)
			if e != api.OK || g != api.OK || !sameFiles(f, x.files) || !slices.Equal(b, x.blocked) {
				t.Error(x.name, f, b, e, g)
			}
			x.l, x.ops = mixedUp(r, x.l), mixedUp(r, x.ops)
		}
	}
}

// P2.2 and P2.3: what rules alone make of records.
func TestFilesByRules(t *testing.T) {
	checkFilings(t, []filing{
		{"none", nil, nil, nil, nil},
		{"one", row(7), nil, [][]int{{7}}, nil},
		{"two", row(9, 4), nil, [][]int{{4, 9}}, nil},
		{"open is not sure", strangers(3, 1, 2), nil, [][]int{{1}, {2}, {3}}, nil},
		{"a row is cut where the first one is apart", row(1, 2, 3), nil, [][]int{{1, 2}, {3}}, []api.Link{byRules(2, 3)}},
		{"a longer row", row(1, 2, 3, 4, 5), nil, [][]int{{1, 2}, {3, 4}, {5}}, []api.Link{byRules(2, 3), byRules(4, 5)}},
		{"links go by the Ids, not by the births", row(1, 3, 2, 4), nil, [][]int{{1, 3}, {2, 4}}, []api.Link{byRules(2, 3)}},
		{"the first one takes the one in between", row(3, 2, 1), nil, [][]int{{1, 2}, {3}}, []api.Link{byRules(2, 3)}},
		{"the greatest one may stand in between", row(1, 9, 2), nil, [][]int{{1, 9}, {2}}, []api.Link{byRules(2, 9)}},
		{"Ids at their limits", row(api.MaxId, 0), nil, [][]int{{0, api.MaxId}}, nil},
		{"one between two others", append(strangers(5), row(4, 6)...), nil, [][]int{{4, 6}, {5}}, nil},
	})
}

// P2.2 and P2.3: what clerks merged and split.
func TestFilesByClerks(t *testing.T) {
	checkFilings(t, []filing{
		{"a merge", strangers(1, 2, 3), []api.Op{merge(5, 1, 3)}, [][]int{{1, 3}, {2}}, nil},
		{"merges that hang together", strangers(1, 2, 3, 4), []api.Op{merge(5, 2, 4), merge(6, 1, 4)}, [][]int{{1, 2, 4}, {3}}, nil},
		{"two files by merges", strangers(4, 3, 2, 1), []api.Op{merge(5, 2, 3), merge(6, 1, 4)}, [][]int{{1, 4}, {2, 3}}, nil},
		{"a merge of what is one already", row(1, 2), []api.Op{merge(5, 1, 2), merge(6, 1, 2)}, [][]int{{1, 2}}, nil},
		{"a merge of two who are apart", row(1, 2, 3), []api.Op{merge(5, 1, 3)}, [][]int{{1, 2}, {3}}, []api.Link{byOp(1, 3, 5), byRules(2, 3)}},
		{"a merge comes before the rules, whatever its Id", row(1, 2, 3), []api.Op{merge(api.MaxId, 2, 3)}, [][]int{{1}, {2, 3}}, []api.Link{byRules(1, 2)}},
		{"the op with the lesser Id comes first", row(1, 2, 3), []api.Op{merge(8, 1, 2), merge(7, 2, 3)}, [][]int{{1}, {2, 3}}, []api.Link{byOp(1, 2, 8), byRules(1, 2)}},
		{"a split", row(1, 2), []api.Op{split(5, 1, 2)}, [][]int{{1}, {2}}, []api.Link{byRules(1, 2)}},
		{"a split of two strangers", strangers(1, 2), []api.Op{split(5, 1, 2)}, [][]int{{1}, {2}}, nil},
		{"a split and a merge of two", strangers(1, 2), []api.Op{split(5, 1, 2), merge(6, 1, 2)}, [][]int{{1}, {2}}, []api.Link{byOp(1, 2, 6)}},
		{"a merge and a later split of two", row(1, 2), []api.Op{merge(5, 1, 2), split(6, 1, 2)}, [][]int{{1}, {2}}, []api.Link{byOp(1, 2, 5), byRules(1, 2)}},
		{"a split keeps files apart", strangers(1, 2, 3, 4), []api.Op{merge(5, 1, 2), merge(6, 3, 4), merge(7, 2, 3), split(8, 1, 4)}, [][]int{{1, 2}, {3, 4}}, []api.Link{byOp(2, 3, 7)}},
		{"a split of records that no link names", strangers(1, 2, 3), []api.Op{merge(5, 1, 2), merge(6, 2, 3), split(2, 1, 3)}, [][]int{{1, 2}, {3}}, []api.Link{byOp(2, 3, 6)}},
		{"the same merge, blocked twice", strangers(1, 2), []api.Op{merge(9, 1, 2), merge(6, 1, 2), split(7, 1, 2)}, [][]int{{1}, {2}}, []api.Link{byOp(1, 2, 6), byOp(1, 2, 9)}},
		{"a link that was blocked is not taken again", strangers(1, 2, 3), []api.Op{split(1, 1, 3), merge(2, 1, 2), merge(3, 2, 3), merge(4, 1, 2)}, [][]int{{1, 2}, {3}}, []api.Link{byOp(2, 3, 3)}},
		{"records that are in no list", strangers(1, 2), []api.Op{merge(5, 1, 7), merge(6, 2, 7), merge(8, 7, 9), split(9, 1, 7), merge(10, 0, 1), split(11, 0, 2)}, [][]int{{1}, {2}}, nil},
		{"they come later", strangers(1, 2, 7), []api.Op{merge(5, 1, 7), merge(6, 2, 7), split(9, 1, 2)}, [][]int{{1, 7}, {2}}, []api.Link{byOp(2, 7, 6)}},
		{"Ids of an op and of records have nothing to do with each other", strangers(0, 1, 2), []api.Op{merge(0, 0, 2), merge(2, 1, 2), undo(3, 0)}, [][]int{{0}, {1, 2}}, nil},
	})
}

// P2.2 and P2.3: ops that are undone.
func TestFilesWithUndos(t *testing.T) {
	both := []api.Link{byOp(1, 2, 5), byRules(1, 2)}
	ops := []api.Op{merge(5, 1, 2), split(6, 1, 2)}
	checkFilings(t, []filing{
		{"a merge is undone", strangers(1, 2), []api.Op{merge(5, 1, 2), undo(6, 5)}, [][]int{{1}, {2}}, nil},
		{"and its undo", strangers(1, 2), []api.Op{merge(5, 1, 2), undo(6, 5), undo(7, 6)}, [][]int{{1, 2}}, nil},
		{"one of two merges is undone", strangers(1, 2), []api.Op{merge(5, 1, 2), merge(6, 1, 2), undo(7, 5)}, [][]int{{1, 2}}, nil},
		{"a split is undone", row(1, 2), append(ops[:2:2], undo(7, 6)), [][]int{{1, 2}}, nil},
		{"and its undo", row(1, 2), append(ops[:2:2], undo(7, 6), undo(8, 7)), [][]int{{1}, {2}}, both},
		{"by two undos", row(1, 2), append(ops[:2:2], undo(7, 6), undo(8, 7), undo(9, 6)), [][]int{{1, 2}}, nil},
		{"one of two splits is undone", row(1, 2), append(ops[:2:2], split(7, 1, 2), undo(8, 6)), [][]int{{1}, {2}}, both},
		{"a merge that blocked others is undone", row(1, 2, 3), []api.Op{merge(4, 2, 3), undo(9, 4)}, [][]int{{1, 2}, {3}}, []api.Link{byRules(2, 3)}},
		{"what was blocked is undone", row(1, 2, 3), []api.Op{merge(4, 1, 3), undo(9, 4)}, [][]int{{1, 2}, {3}}, []api.Link{byRules(2, 3)}},
		// An undo names ops alone: 1 and 2 are records here, too.
		{"an undo of an op whose Id is a record's", strangers(1, 2, 3), []api.Op{merge(1, 2, 3), merge(2, 1, 3), undo(3, 2)}, [][]int{{1}, {2, 3}}, nil},
	})
}

// P2.2 and P2.3: lists of all lengths, with links, without, and all of them apart.
func TestFilesOfListsOfAllLengths(t *testing.T) {
	for n := range api.MaxRecords + 1 {
		crowd, apart := []api.Record{}, []api.Record{}
		var each, all [][]int
		for _, id := range upTo(n) {
			crowd, apart = append(crowd, moor(id, "777777777", 100)), append(apart, moor(id, "777777777", 100*id))
			each, all = append(each, []int{id}), [][]int{upTo(n)}
		}
		if n == 0 {
			all = nil
		}
		checkFilings(t, []filing{
			{"all", crowd, nil, all, nil},
			{"all, by merges", strangers(upTo(n)...), manyOps(api.MaxOps), all, nil},
			{"open", strangers(upTo(n)...), nil, each, nil},
			{"apart", apart, nil, each, nil},
		})
	}
}

// P2.2 and P2.3: files are as the chapter defines them.
func TestFilesAsTold(t *testing.T) {
	r := newRandom(3)
	found := [4]int{}
	for range 2000 {
		s := r.story()
		want := s.file()
		f, e := file.Files(s.rules, s.l, s.ops)
		b, g := file.Blocked(s.rules, s.l, s.ops)
		if e != api.OK || g != api.OK || !sameFiles(f, want.files) || !slices.Equal(b, want.blocked) {
			t.Fatal(s, f, b, e, g, want)
		}
		found[0] += len(want.followed)
		for _, k := range want.blocked {
			if k.Op == api.ByRules {
				found[1]++
			} else if found[2]++; !s.apart(k.A, k.B) {
				found[3]++
			}
		}
	}
	for i, n := range found {
		if n < 50 {
			t.Error("too few were found", i, n)
		}
	}
}
