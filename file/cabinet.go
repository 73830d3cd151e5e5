package file

import (
	"iter"
	"slices"

	"goodname/api"
	"goodname/match"
)

// cabinet is records, by their Ids, that links put into files.
type cabinet struct {
	ids   []int           // in ascending order
	above map[int]int     // another record of the same file, or the record itself
	apart map[[2]int]bool // the lesser Id first
	taken []link
}

// arrange makes the files of records and ops.
func arrange(r api.Rules, l []api.Record, ops []api.Op) (*cabinet, api.Errno) {
	sure, open, e := match.Pairs(r, l)
	if e != api.OK {
		return nil, e
	}
	if !opsValid(ops) {
		return nil, api.ErrOps
	}
	s, c := hear(ops), newCabinet(l)
	for pair := range pairs(c.ids) {
		if !inEither(pair, sure, open) {
			c.apart[pair] = true
		}
	}
	for _, pair := range s.splits {
		c.apart[pair] = true
	}
	for k := range c.links(s.merges, sure) {
		c.take(&k)
		c.taken = append(c.taken, k)
	}
	return c, api.OK
}

func newCabinet(l []api.Record) *cabinet {
	c := &cabinet{above: map[int]int{}, apart: map[[2]int]bool{}}
	for _, a := range l {
		c.ids = append(c.ids, a.Id)
		c.above[a.Id] = a.Id
	}
	slices.Sort(c.ids)
	return c
}

func (c *cabinet) has(id int) bool {
	_, ok := c.above[id]
	return ok
}

// top goes up from a record to the one that stands for its file.
func (c *cabinet) top(id int) int {
	for c.above[id] != id {
		id = c.above[id]
	}
	return id
}

// grouped returns the Ids that have the same top together. As the Ids ascend,
// each group does, and so do the groups' first ones.
func grouped(ids []int, top func(id int) int) [][]int {
	var out [][]int
	at := map[int]int{}
	for _, id := range ids {
		i, ok := at[top(id)]
		if !ok {
			i = len(out)
			at[top(id)] = i
			out = append(out, nil)
		}
		out[i] = append(out[i], id)
	}
	return out
}

// pairs yields all pairs of a list, in the order of the first ones, then of the
// second ones.
func pairs(ids []int) iter.Seq[[2]int] {
	return func(yield func([2]int) bool) {
		for i, a := range ids {
			for _, b := range ids[i+1:] {
				if !yield([2]int{a, b}) {
					return
				}
			}
		}
	}
}

// inEither tells whether something is in one of two lists.
func inEither[T comparable](x T, a, b []T) bool {
	return slices.Contains(a, x) || slices.Contains(b, x)
}
