// Package order puts things in order by their numbers. It is no layer: layers
// that need an order share it.
package order

import (
	"cmp"
	"iter"
	"slices"
)

// Compare returns a number below 0 if the first one of two things comes before the
// other one by the first one of their numbers that differs, one above 0 if it comes
// after it, and 0 if none differs.
func Compare[T any](a, b T, numbers ...func(T) int) int {
	for _, number := range numbers {
		if c := cmp.Compare(number(a), number(b)); c != 0 {
			return c
		}
	}
	return 0
}

// By returns the elements of a sequence by the first one of their numbers, those
// that have the same by the next one, and so on.
func By[T any](l iter.Seq[T], numbers ...func(T) int) []T {
	return slices.SortedFunc(l, func(a, b T) int { return Compare(a, b, numbers...) })
}
