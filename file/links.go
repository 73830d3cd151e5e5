package file

import (
	"iter"

	"goodname/api"
)

// What became of a link that was taken.
const (
	idle     = iota // both records were in one file already
	followed        // both files became one
	blocked         // some of their records are apart
)

// link is a link at work.
type link struct {
	api.Link
	became int
}

// other returns the record that a link ties to one of its records.
func (k link) other(id int) int {
	if id == k.A {
		return k.B
	}
	return k.A
}

// links yields the links of the records, in their order.
func (c *cabinet) links(merges []api.Link, sure [][2]int) iter.Seq[link] {
	return func(yield func(link) bool) {
		for _, m := range merges {
			if c.has(m.A) && c.has(m.B) && !yield(link{Link: m}) {
				return
			}
		}
		for _, pair := range sure {
			if !yield(link{Link: api.Link{A: pair[0], B: pair[1], Op: api.ByRules}}) {
				return
			}
		}
	}
}

// take follows a link between two files that are not apart. Which one goes
// below the other one does not matter.
func (c *cabinet) take(k *link) {
	a, b := c.top(k.A), c.top(k.B)
	switch {
	case a == b:
		k.became = idle
	case c.filesApart(a, b):
		k.became = blocked
	default:
		k.became = followed
		c.above[b] = a
	}
}

// filesApart tells whether a record of the file with one top and a record of
// that with another one are apart.
func (c *cabinet) filesApart(a, b int) bool {
	found := false
both:
	for _, x := range c.ids {
		if c.top(x) != a {
			continue
		}
		for _, y := range c.ids {
			if c.top(y) == b && c.apart[[2]int{min(x, y), max(x, y)}] {
				found = true
				break both
			}
		}
	}
	return found
}

// way returns the links from a record to another one of its file. The links
// that were followed make no rings: who never goes back by the link just come
// by is at no record twice.
func (c *cabinet) way(a, b int) []api.Link {
	var from func(id int, last api.Link) ([]api.Link, bool)
	from = func(id int, last api.Link) ([]api.Link, bool) {
		if id == b {
			return nil, true
		}
		for _, k := range c.taken {
			if k.became != followed || k.Link == last || k.A != id && k.B != id {
				continue
			}
			if rest, ok := from(k.other(id), k.Link); ok {
				return append([]api.Link{k.Link}, rest...), true
			}
		}
		return nil, false
	}
	found, _ := from(a, api.Link{})
	return found
}
