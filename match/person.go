package match

import (
	"cmp"
	"iter"
	"slices"

	"goodname/api"
)

// person is a record at work: a valid one, with its stays by their places.
type person struct {
	api.Record
	places map[int][]api.Stay
}

func newPerson(a api.Record) person {
	p := person{Record: a, places: map[int][]api.Stay{}}
	for _, s := range a.Stays {
		p.places[s.Place] = append(p.places[s.Place], s)
	}
	return p
}

// people returns records at work, in the order of their Ids.
func people(l []api.Record) []person {
	var out []person
	for _, a := range l {
		out = append(out, newPerson(a))
	}
	return inOrder(out, func(p person) int { return p.Id })
}

func (p person) family() string { return p.Names[0] }

// given yields the given names, in their order.
func (p person) given() iter.Seq[string] {
	return slices.Values(p.Names[1:])
}

// inOrder returns the elements of a list by ascending keys, in new memory.
func inOrder[T any](l []T, key func(T) int) []T {
	return slices.SortedFunc(slices.Values(l), func(a, b T) int { return cmp.Compare(key(a), key(b)) })
}
