package ring

import (
	"iter"
	"slices"

	"goodname/api"
)

// hunt is a hunt at work. Filings are told by where they are in the list.
type hunt struct {
	api.Hunt
	ids     []int // of the filings, in increasing order
	weights [api.MaxFilings][api.MaxFilings]int
}

// open returns a hunt at work.
func open(h api.Hunt, l []api.Filing) (*hunt, api.Errno) {
	if e := Check(h, l); e != api.OK {
		return nil, e
	}
	w := &hunt{Hunt: h, ids: ids(l)}
	having := countParts(l)
	for i, k := range pairs(len(l)) {
		n := w.weight(l[i], l[k], having)
		w.weights[i][k], w.weights[k][i] = n, n
	}
	return w, api.OK
}

// openFor returns a hunt at work, and where two filings are that are not the same.
func openFor(h api.Hunt, l []api.Filing, a, b int) (w *hunt, i, k int, e api.Errno) {
	w, e = open(h, l)
	if e != api.OK {
		return nil, 0, 0, e
	}
	i, isA := w.find(a)
	k, isB := w.find(b)
	switch {
	case !isA || !isB:
		return nil, 0, 0, api.ErrNone
	case a == b:
		return nil, 0, 0, api.ErrArg
	}
	return w, i, k, api.OK
}

func ids(l []api.Filing) []int {
	var out []int
	for _, f := range l {
		out = append(out, f.Id)
	}
	return out
}

// countParts returns how many filings have each part.
func countParts(l []api.Filing) map[int]int {
	having := map[int]int{}
	for _, f := range l {
		for _, part := range f.Parts {
			having[part]++
		}
	}
	return having
}

// pairs yields all pairs of so many filings, the one that is first in the list
// first.
func pairs(n int) iter.Seq2[int, int] {
	return func(yield func(i, k int) bool) {
		for k := range n {
			for i := range k {
				if !yield(i, k) {
					return
				}
			}
		}
	}
}

// weight returns the weight of two filings, by how many have each part.
func (w *hunt) weight(a, b api.Filing, having map[int]int) int {
	days := a.Day - b.Day
	if max(days, -days) > w.Window {
		return 0
	}
	sum := 0
	for _, part := range a.Parts {
		if slices.Contains(b.Parts, part) {
			sum += w.weightOfPart(having[part])
		}
	}
	return sum
}

// weightOfPart returns the weight of a part that so many filings have.
func (w *hunt) weightOfPart(n int) int {
	if n < 2 || n >= w.Common {
		return 0
	}
	return api.Whole / (n - 1)
}

// find returns where the filing with an Id is, if there is one.
func (w *hunt) find(id int) (int, bool) { return slices.BinarySearch(w.ids, id) }

// idsOf returns the Ids of filings.
func (w *hunt) idsOf(group []int) []int {
	var out []int
	for _, i := range group {
		out = append(out, w.ids[i])
	}
	return out
}

// tied tells whether two filings are tied at a strength, which is 1 or more.
func (w *hunt) tied(i, k, strength int) bool { return w.weights[i][k] >= strength }

// all returns all filings.
func (w *hunt) all() map[int]bool {
	out := map[int]bool{}
	for i := range len(w.ids) {
		out[i] = true
	}
	return out
}
