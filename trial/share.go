package trial

import (
	"slices"

	"goodname/api"
)

// share is a part of a whole, which is not 0.
type share struct{ part, whole int }

func (a share) above(b share) bool { return a.part*b.whole > b.part*a.whole }

// apart returns how far two shares are from each other.
func (a share) apart(b share) share {
	n := a.part*b.whole - b.part*a.whole
	return share{max(n, -n), a.whole * b.whole}
}

// thousandths returns a share in thousandths, rounded up.
func (a share) thousandths() int { return (a.part*api.Whole + a.whole - 1) / a.whole }

// greatest returns the one of some things, of which there is at least one, whose
// share is the greatest; of several ones the first.
func greatest[T any](l []T, of func(T) share) T {
	best := l[0]
	for _, x := range l[1:] {
		if of(x).above(of(best)) {
			best = x
		}
	}
	return best
}

// farthest returns the greatest difference of the shares of two lists that are at
// most a number. It is the greatest at a number of one of them, since the shares
// change nowhere else.
func farthest(a, b []int) share {
	upTo := func(l []int, last int) share {
		n := 0
		for _, x := range l {
			if x <= last {
				n++
			}
		}
		return share{n, len(l)}
	}
	apart := func(last int) share { return upTo(a, last).apart(upTo(b, last)) }
	return apart(greatest(slices.Concat(a, b), apart))
}

// group is those of one group, by the answer to them.
type group struct {
	id   int
	said [2]int
}

func (g group) saidYes() share { return share{g.said[yes], g.said[no] + g.said[yes]} }
func (g group) saidNo() share  { return share{g.said[no], g.said[no] + g.said[yes]} }

// groupsOf returns the groups of people that are not empty, in order.
func groupsOf(l []person, answers []int) []group {
	var said [api.MaxGroup + 1][2]int
	for i := range len(l) {
		said[l[i].Group][answers[i]]++
	}
	var out []group
	for id, n := range said {
		if n != [2]int{} {
			out = append(out, group{id, n})
		}
	}
	return out
}
