package belt

import (
	"iter"
	"slices"

	"remould/api"
)

// shortestOdd is the length of the shortest odd cycles that any graph has.
const shortestOdd = 3

// cycle is a cycle, or the beginning of one. The vertices behind its length are 0, so that it can be a key.
type cycle struct {
	length   int
	vertices [api.MaxVertices]int
}

func (c cycle) list() []int { return slices.Clone(c.vertices[:c.length]) }

func (c cycle) with(vertex int) cycle {
	c.vertices[c.length] = vertex
	c.length++
	return c
}

// isWritten reports whether a list has a length of odd cycles, and the one of its two directions in which a cycle is written.
func isWritten(list []int) bool {
	last := len(list) - 1
	return len(list) >= shortestOdd && len(list)%2 == 1 && list[1] < list[last]
}

// oddCycles visits, in lexicographic order, the odd cycles of at most longest vertices, each with its edges.
func (g *graph) oddCycles(longest int) iter.Seq2[cycle, edgeSet] {
	return func(yield func(cycle, edgeSet) bool) {
		var extend func(way cycle, taken edgeSet) bool
		extend = func(way cycle, taken edgeSet) bool {
			list := way.vertices[:way.length]
			first, last := list[0], list[way.length-1]
			closing := g.joints[last][first]
			if closing != 0 && isWritten(list) && !yield(way, taken|closing) {
				return false
			}
			if way.length == longest {
				return true
			}
			for next := first + 1; next < g.n; next++ {
				joint := g.joints[last][next]
				if joint != 0 && !slices.Contains(list, next) && !extend(way.with(next), taken|joint) {
					return false
				}
			}
			return true
		}
		for first := range g.n {
			if !extend(cycle{}.with(first), 0) {
				return
			}
		}
	}
}

// edgesOf returns the edges of an odd cycle, and reports whether the list is one, and is written as one.
func (g *graph) edgesOf(list []int) (edgeSet, bool) {
	if !isWritten(list) {
		return 0, false
	}
	for i, vertex := range list {
		if vertex < max(list[0], 0) || vertex >= g.n || slices.Contains(list[:i], vertex) {
			return 0, false
		}
	}
	taken := edgeSet(0)
	before := list[len(list)-1]
	for _, vertex := range list {
		joint := g.joints[before][vertex]
		if joint == 0 {
			return 0, false
		}
		taken |= joint
		before = vertex
	}
	return taken, true
}
