package belt

import (
	"slices"

	"remould/api"
)

// cutter returns the smallest side that cuts every edge, and reports whether there is one. Its opposite cuts the same edges, so that it is proper.
func (g *graph) cutter() (sideBits, bool) {
search:
	for s := range properSides(g.n) {
		for _, e := range g.edges {
			if !s.cuts(e) {
				continue search
			}
		}
		return s, true
	}
	return 0, false
}

// Sides returns the smallest side that cuts every edge.
func Sides(n int, edges []api.Edge) (string, api.Errno) {
	g, ok := newGraph(n, edges)
	if !ok {
		return "", api.ErrArg
	}
	s, ok := g.cutter()
	if !ok {
		return "", api.ErrNone
	}
	return s.text(n), api.OK
}

// Odd returns the smallest one of the shortest odd cycles.
func Odd(n int, edges []api.Edge) ([]int, api.Errno) {
	g, ok := newGraph(n, edges)
	if !ok {
		return nil, api.ErrArg
	}
	// There is an odd cycle exactly if no side cuts every edge. To find this out by a search for cycles could take long.
	if _, ok := g.cutter(); ok {
		return nil, api.ErrNone
	}
	var shortest cycle
search:
	for longest := shortestOdd; longest <= n; longest += 2 {
		for c := range g.oddCycles(longest) {
			shortest = c
			break search
		}
	}
	return shortest.list(), api.OK
}

// Apart returns as many odd cycles as possible that are apart, in ascending order.
func Apart(n int, edges []api.Edge) ([][]int, api.Errno) {
	g, ok := newGraph(n, edges)
	if !ok || len(edges) > api.MaxApart {
		return nil, api.ErrArg
	}
	var odd []cycle
	takes := map[cycle]edgeSet{}
	for c, taken := range g.oddCycles(n) {
		odd = append(odd, c)
		takes[c] = taken
	}
	var lists [][]int
	for _, c := range mostApart(odd, takes) {
		lists = append(lists, c.list())
	}
	return lists, api.OK
}

// mostApart returns as many of the cycles as possible that are apart, in their order. With so few edges there are few ways to choose cycles that are apart, and all of them are tried.
func mostApart(cycles []cycle, takes map[cycle]edgeSet) []cycle {
	var most []cycle
	var choose func(chosen []cycle, taken edgeSet, from int)
	choose = func(chosen []cycle, taken edgeSet, from int) {
		if len(chosen) > len(most) {
			most = slices.Clone(chosen)
		}
		for i := from; i < len(cycles); i++ {
			c := cycles[i]
			if taken&takes[c] == 0 {
				choose(append(chosen, c), taken|takes[c], i+1)
			}
		}
	}
	choose(nil, 0, 0)
	return most
}

// Check returns the number of odd cycles that are apart.
func Check(n int, edges []api.Edge, cycles [][]int) (int, api.Errno) {
	g, ok := newGraph(n, edges)
	if !ok {
		return 0, api.ErrArg
	}
	all := edgeSet(0)
	for _, list := range cycles {
		taken, ok := g.edgesOf(list)
		if !ok || all&taken != 0 {
			return 0, api.ErrAnswer
		}
		all |= taken
	}
	return len(cycles), api.OK
}
