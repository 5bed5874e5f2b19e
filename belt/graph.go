package belt

import "remould/api"

// edgeSet has a bit for each edge of a graph, by its position in the list.
type edgeSet uint64

type graph struct {
	n     int
	edges []api.Edge
	// joints has, for each two vertices, the bit of the edge that joins them, or 0 if there is none.
	joints [api.MaxVertices][api.MaxVertices]edgeSet
}

// newGraph reports whether n and edges are a graph. It must not outlive the call for which it is made, because it has the edges themselves.
func newGraph(n int, edges []api.Edge) (*graph, bool) {
	if n < 1 || n > api.MaxVertices || len(edges) > api.MaxEdges {
		return nil, false
	}
	g := &graph{n: n, edges: edges}
	for i, e := range edges {
		if !isEdge(n, e) || g.joints[e.A][e.B] != 0 {
			return nil, false
		}
		g.joints[e.A][e.B] = 1 << i
		g.joints[e.B][e.A] = 1 << i
	}
	return g, true
}

func isEdge(n int, e api.Edge) bool {
	return 0 <= e.A && e.A < e.B && e.B < n && -api.MaxWeight <= e.Weight && e.Weight <= api.MaxWeight
}
