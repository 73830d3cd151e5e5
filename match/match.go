// Package match is layer 1: see shared/doc/01-match.md.
//
// It tells of records of persons how much they agree, which of them are surely
// or perhaps one person's, and who lived together on a day.
package match

import (
	"maps"
	"slices"

	"goodname/api"
)

// Check returns the error of rules and a record (P1.1).
func Check(r api.Rules, a api.Record) api.Errno {
	if !rulesValid(r) {
		return api.ErrRules
	}
	if !recordValid(a) {
		return api.ErrRecord
	}
	return api.OK
}

// Edits returns the edits of two words, byte by byte (P1.1).
func Edits(a, b string) (int, api.Errno) {
	if len(a) > api.MaxWord || len(b) > api.MaxWord {
		return 0, api.ErrArg
	}
	return edits(a, b), api.OK
}

// Compare returns how much two records agree, and whether they are one
// person's (P1.2).
func Compare(r api.Rules, a, b api.Record) (api.Match, api.Errno) {
	if e := Check(r, a); e != api.OK {
		return api.Match{}, e
	}
	if e := Check(r, b); e != api.OK {
		return api.Match{}, e
	}
	return compare(r, newPerson(a), newPerson(b)), api.OK
}

// Pairs returns the pairs of records that are surely one person's, and those
// that may be (P1.3).
func Pairs(r api.Rules, l []api.Record) (sure, open [][2]int, e api.Errno) {
	if !rulesValid(r) {
		return nil, nil, api.ErrRules
	}
	if e := listError(l); e != api.OK {
		return nil, nil, e
	}
	p := people(l)
	for i := range len(p) {
		for j := range len(p) {
			if j <= i {
				continue
			}
			pair := [2]int{p[i].Id, p[j].Id}
			switch compare(r, p[i], p[j]).One {
			case api.KnownYes:
				sure = append(sure, pair)
			case api.KnownOpen:
				open = append(open, pair)
			}
		}
	}
	return sure, open, api.OK
}

// Homes returns who was at one place on a day (P1.4).
func Homes(l []api.Record, day int) ([][]int, api.Errno) {
	if !within(day, 0, api.MaxDay) {
		return nil, api.ErrArg
	}
	if e := listError(l); e != api.OK {
		return nil, e
	}
	at := map[int][]int{}
	for _, p := range people(l) {
		for place, stays := range p.places {
			if slices.ContainsFunc(stays, func(s api.Stay) bool { return within(day, s.From, s.To) }) {
				at[place] = append(at[place], p.Id)
			}
		}
	}
	var homes [][]int
	for _, place := range inOrder(slices.Collect(maps.Keys(at)), func(place int) int { return place }) {
		homes = append(homes, at[place])
	}
	return homes, api.OK
}
