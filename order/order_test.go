package order_test

import (
	"slices"
	"testing"

	"goodname/order"
)

func first(p [3]int) int  { return p[0] }
func second(p [3]int) int { return p[1] }
func third(p [3]int) int  { return -p[2] }

// Things are put in order by the first number, then by the next one, and so on; the
// list itself is left as it is.
func TestBy(t *testing.T) {
	l := [][3]int{{2, 1, 1}, {1, 2, 1}, {1, 1, 1}, {2, 1, 2}, {1, 2, -3}}
	before := slices.Clone(l)
	want := [][3]int{{1, 1, 1}, {1, 2, 1}, {1, 2, -3}, {2, 1, 2}, {2, 1, 1}}
	if got := order.By(slices.Values(l), first, second, third); !slices.Equal(got, want) || !slices.Equal(l, before) {
		t.Error(got, l)
	}
	if got := order.By(slices.Values(l[:1]), first); !slices.Equal(got, l[:1]) {
		t.Error(got)
	}
	if got := order.By(slices.Values(l[:0]), second, first); len(got) > 0 {
		t.Error(got)
	}
}
