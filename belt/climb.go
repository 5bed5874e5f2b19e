package belt

import (
	"slices"

	"remould/api"
)

// gains has, for each vertex, by how much flipping it increases the value of a side. Those of vertices that a graph does not have are 0.
type gains [api.MaxVertices]int

func (g *graph) gains(s sideBits) gains {
	var list gains
	for _, e := range g.edges {
		gain := e.Weight
		if s.cuts(e) {
			gain = -gain
		}
		list[e.A] += gain
		list[e.B] += gain
	}
	return list
}

// firstPositive returns the smallest vertex that increases the value, or -1 if there is none.
func (list gains) firstPositive() int {
	return slices.IndexFunc(list[:], func(gain int) bool { return gain > 0 })
}

// Gains returns, for each vertex, by how much flipping it increases the value.
func Gains(n int, edges []api.Edge, side string) ([]int, api.Errno) {
	g, s, ok := newGraphWithSide(n, edges, side)
	if !ok {
		return nil, api.ErrArg
	}
	list := g.gains(s)
	return slices.Clone(list[:n]), api.OK
}

// Climb flips the smallest vertex that increases the value until there is none, and returns the side and the number of flips. There is an end, because the value grows with each flip.
func Climb(n int, edges []api.Edge, side string) (string, int, api.Errno) {
	g, s, ok := newGraphWithSide(n, edges, side)
	if !ok {
		return "", 0, api.ErrArg
	}
	flips := 0
	for vertex := g.gains(s).firstPositive(); vertex >= 0; vertex = g.gains(s).firstPositive() {
		s = s.flipped(vertex)
		flips++
	}
	return s.text(n), flips, api.OK
}
