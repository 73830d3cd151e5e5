package order_test

import (
	"cmp"
	"slices"
	"testing"

	"goodname/order"
)

func first(p [3]int) int  { return p[0] }
func second(p [3]int) int { return p[1] }
func third(p [3]int) int  { return -p[2] }

// Two things are compared by the first number that differs, whatever the next ones
// are.
func TestCompare(t *testing.T) {
	for i, x := range []struct {
		a, b    [3]int
		numbers []func([3]int) int
		want    int
	}{
		{[3]int{1, 9, 0}, [3]int{2, 1, 9}, []func([3]int) int{first, second, third}, -1},
		{[3]int{1, 2, 0}, [3]int{1, 1, 9}, []func([3]int) int{first, second, third}, 1},
		{[3]int{1, 1, 0}, [3]int{1, 1, 9}, []func([3]int) int{first, second, third}, 1},
		{[3]int{1, 1, 9}, [3]int{1, 1, 9}, []func([3]int) int{first, second, third}, 0},
		{[3]int{1, 9, 0}, [3]int{2, 1, 9}, []func([3]int) int{second, first}, 1},
		{[3]int{1, 9, 0}, [3]int{1, 1, 9}, []func([3]int) int{first}, 0},
		{[3]int{1, 9, 0}, [3]int{2, 1, 9}, nil, 0},
	} {
		there, back := order.Compare(x.a, x.b, x.numbers...), order.Compare(x.b, x.a, x.numbers...)
		if cmp.Compare(there, 0) != x.want || cmp.Compare(back, 0) != -x.want {
			t.Error(i, there, back)
		}
	}
}

// Things are put in order by the first number, then by the next one, and so on; the
// list itself is left as it is.
func TestBy(t *testing.T) {
	l := [][3]int{{2, 1, 1}, {1, 2, 1}, {1, 1, 1}, {2, 1, 2}, {1, 2, -3}}
	before := slices.Clone(l)
	want := [][3]int{{1, 1, 1}, {1, 2, 1}, {1, 2, -3}, {2, 1, 2}, {2, 1, 1}}
	if got := order.By(slices.Values(l), first, second, third); !slices.Equal(got, want) || !slices.Equal(l, before) {
		t.Error(got, l)
	}
	if got := order.By(slices.Values(l[:1]), first); !slices.Equal(got, l[:1]) {
		t.Error(got)
	}
	if got := order.By(slices.Values(l[:0]), second, first); len(got) > 0 {
		t.Error(got)
	}
}
