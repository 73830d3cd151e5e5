package sum

// fraction is a number: n by d, which is above 0. No whole number above 1 divides
// both, so that fractions that are the same number are the same struct.
type fraction struct{ n, d int }

func integer(n int) fraction { return fraction{n, 1} }

// ratio returns n by d, which is not 0.
func ratio(n, d int) fraction {
	c := common(n, d)
	if d < 0 {
		c = -c
	}
	return fraction{n / c, d / c}
}

func (f fraction) minus(g fraction) fraction { return ratio(f.n*g.d-g.n*f.d, f.d*g.d) }

func (f fraction) times(g fraction) fraction { return ratio(f.n*g.n, f.d*g.d) }

// by returns a fraction by another one, which is not 0.
func (f fraction) by(g fraction) fraction { return ratio(f.n*g.d, f.d*g.n) }

func (f fraction) isSome() bool { return f != integer(0) }

// common returns the greatest number that divides all of some, of which one is not
// 0.
func common(l ...int) int {
	c := 0
	for _, n := range l {
		for n != 0 {
			c, n = n, c%n
		}
	}
	return max(c, -c)
}

// clearing returns the least number above 0 by which all of some fractions become
// whole.
func clearing(l []fraction) int {
	m := 1
	for _, f := range l {
		m *= f.d / common(m, f.d)
	}
	return m
}

// multiplied returns fractions times a number by which all of them become whole.
func multiplied(l []fraction, m int) []int {
	var out []int
	for _, f := range l {
		out = append(out, m/f.d*f.n)
	}
	return out
}
