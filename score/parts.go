package score

import "goodname/api"

// part is what says points for values: a scale or a tree.
type part interface {
	points(x []int) int
}

// scale is the scale of a trait.
type scale struct {
	api.Scale
	trait int
}

func (s scale) points(x []int) int {
	v := x[s.trait]
	if v == api.Missing {
		return s.None
	}
	i := 0
	for i < len(s.Cuts) && s.Cuts[i] <= v {
		i++
	}
	return s.Points[i]
}

// tree is a tree of nodes.
type tree struct{ api.Tree }

// points ends, as each node leads to nodes after it, the last one of which is a
// leaf. Missing is below each cut, and needs no case of its own.
func (t tree) points(x []int) int {
	n := t.Nodes[0]
	for n.Trait != api.Leaf {
		if x[n.Trait] < n.Cut {
			n = t.Nodes[n.Low]
		} else {
			n = t.Nodes[n.High]
		}
	}
	return n.Points
}

// cutsOf returns the values of a trait from which on a part may say other points.
func cutsOf(p part, trait int) []int {
	var l []int
	switch p := p.(type) {
	case scale:
		if p.trait == trait {
			l = append(l, p.Cuts...)
		}
	case tree:
		for _, n := range p.Nodes {
			if n.Trait == trait {
				l = append(l, n.Cut)
			}
		}
	}
	return l
}
