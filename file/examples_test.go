package file_test

import (
	"slices"
	"testing"

	"goodname/api"
	"goodname/file"
)

func exampleRules() api.Rules { return api.Rules{Letters: 2, Digits: 1, Days: 30, Together: 10} }

// The records of the chapter's examples.
func exampleRecords() []api.Record {
	on := func(day int) api.Span { return api.Span{Lo: day, Hi: day} }
	at := func(place, from, to int) []api.Stay { return []api.Stay{{Place: place, From: from, To: to}} }
	return []api.Record{
		{Id: 1, Names: []string{"SMITH", "JOHN", "PAUL"}, Born: on(5000), Number: "123456789", Stays: at(7, 100, 200)},
		{Id: 2, Names: []string{"SMYTH", "JOHN"}, Born: on(5000), Number: "123456780", Stays: at(7, 150, 300)},
		{Id: 3, Names: []string{"SMITH", "J"}, Born: on(5000), Stays: at(7, 180, 190)},
		{Id: 4, Names: []string{"SMITH", "JOHN"}, Suffix: api.SuffixJunior, Born: api.Span{Lo: 14000, Hi: 14100}, Stays: at(7, 100, 400)},
		{Id: 5, Names: []string{"SMITH", "JOHN", "PAUL"}, Suffix: api.SuffixSenior, Born: on(5000), Number: "987654321", Stays: at(8, 0, 50)},
		{Id: 6, Names: []string{"SMYTH", "JOHN"}, Born: on(5010), Number: "123456780"},
	}
}

func TestExamplesOfFiles(t *testing.T) {
	for i, x := range []struct {
		ops     []api.Op
		files   [][]int
		blocked []api.Link
	}{
		{nil, [][]int{{1, 3}, {2, 6}, {4}, {5}}, nil},
		// DOC.md, example 2: a merge of two records brings four into one file.
		{[]api.Op{merge(1, 1, 2)}, [][]int{{1, 2, 3, 6}, {4}, {5}}, nil},
		{[]api.Op{merge(1, 1, 2), split(2, 3, 6)}, [][]int{{1, 2, 3}, {4}, {5}, {6}}, []api.Link{byRules(2, 6)}},
	} {
		f, e := file.Files(exampleRules(), exampleRecords(), x.ops)
		b, g := file.Blocked(exampleRules(), exampleRecords(), x.ops)
		if e != api.OK || g != api.OK || !sameFiles(f, x.files) || !slices.Equal(b, x.blocked) {
			t.Error(i, f, b, e, g)
		}
	}
}

func TestExampleOfWhy(t *testing.T) {
	way, e := file.Why(exampleRules(), exampleRecords(), []api.Op{merge(1, 1, 2)}, 3, 6)
	if e != api.OK || !slices.Equal(way, []api.Link{byRules(1, 3), byOp(1, 2, 1), byRules(2, 6)}) {
		t.Error(way, e)
	}
}

func TestExampleOfActive(t *testing.T) {
	l, e := file.Active([]api.Op{merge(1, 1, 2), split(2, 3, 6), undo(3, 2), undo(4, 3)})
	if e != api.OK || !slices.Equal(l, []int{1, 2, 4}) {
		t.Error(l, e)
	}
}

func TestExampleOfMixed(t *testing.T) {
	l, e := file.Mixed(exampleRules(), exampleRecords(), nil, []int{5, 1, 4})
	if e != api.OK || !slices.Equal(l, [][2]int{{1, 4}, {1, 5}, {4, 5}}) {
		t.Error(l, e)
	}
}
