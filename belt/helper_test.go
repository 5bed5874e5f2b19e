package belt_test

import (
	"fmt"
	"iter"
	"math"
	"math/rand/v2"
	"slices"
	"strconv"
	"strings"

	"remould/api"
)

// The helpers below follow the chapter word by word, without any code of the package, so that the tests compare two ways to the same result.

// graph has the arguments that are a graph, or not.
type graph struct {
	n     int
	edges []api.Edge
}

// String is brief, because some of what is no graph has very many edges.
func (g graph) String() string { return strconv.Itoa(g.n) + " " + brief(g.edges) }

// brief returns a list as a text that is not too long for a message.
func brief(list any) string {
	text := fmt.Sprint(list)
	if len(text) > 500 {
		return text[:500] + " ..."
	}
	return text
}

// sidesOf returns all sides of n vertices in lexicographic order.
func sidesOf(n int) []string {
	all := []string{""}
	for range n {
		var longer []string
		for _, side := range all {
			longer = append(longer, side+"0", side+"1")
		}
		all = longer
	}
	return all
}

// properSidesOf returns those that begin with 0.
func properSidesOf(n int) []string {
	return slices.DeleteFunc(sidesOf(n), func(side string) bool { return side[0] != '0' })
}

func cuts(side string, e api.Edge) bool { return side[e.A] != side[e.B] }

func valueOf(edges []api.Edge, side string) int {
	sum := 0
	for _, e := range edges {
		if cuts(side, e) {
			sum += e.Weight
		}
	}
	return sum
}

// bestOf returns the first one of some sides with the greatest value, this value, and the number of sides that have it.
func bestOf(edges []api.Edge, sides []string) (string, int, int) {
	best, count := sides[0], 0
	for _, side := range sides {
		switch value, greatest := valueOf(edges, side), valueOf(edges, best); {
		case value > greatest:
			best, count = side, 1
		case value == greatest:
			count++
		}
	}
	return best, valueOf(edges, best), count
}

// changed returns a side with other characters at the vertices at which mask has 1.
func changed(side, mask string) string {
	characters := []byte(side)
	for i := range characters {
		if mask[i] == '1' {
			characters[i] = '0' + '1' - characters[i]
		}
	}
	return string(characters)
}

// single returns the side of n vertices in which one vertex has 1.
func single(n, vertex int) string {
	return strings.Repeat("0", vertex) + "1" + strings.Repeat("0", n-vertex-1)
}

func ones(n int) string { return strings.Repeat("1", n) }

// isJoined reports whether an edge joins two vertices.
func isJoined(edges []api.Edge, v, w int) bool {
	return slices.ContainsFunc(edges, func(e api.Edge) bool { return e.A == v && e.B == w || e.A == w && e.B == v })
}

// isOddCycle reports whether a list is an odd cycle of a graph, written as the chapter says.
func isOddCycle(g graph, list []int) bool {
	k := len(list)
	if k < 3 || k%2 == 0 || list[1] >= list[k-1] || slices.Min(list) != list[0] {
		return false
	}
	for i, v := range list {
		if slices.Index(list, v) != i || !isJoined(g.edges, v, list[(i+1)%k]) {
			return false
		}
	}
	return true
}

// edgesIn returns the ends of the edges of a cycle, the smaller one first.
func edgesIn(list []int) [][2]int {
	var all [][2]int
	for i, v := range list {
		w := list[(i+1)%len(list)]
		all = append(all, [2]int{min(v, w), max(v, w)})
	}
	return all
}

// areApart reports whether no edge is in two of some cycles.
func areApart(cycles [][]int) bool {
	used := map[[2]int]bool{}
	for _, list := range cycles {
		for _, ends := range edgesIn(list) {
			if used[ends] {
				return false
			}
			used[ends] = true
		}
	}
	return true
}

// differentLists returns, for k from 0 to n, all lists of k different vertices in lexicographic order.
func differentLists(n int) [][][]int {
	all := [][][]int{{nil}}
	for k := range n {
		var longer [][]int
		for _, list := range all[k] {
			for v := range n {
				if !slices.Contains(list, v) {
					longer = append(longer, append(slices.Clone(list), v))
				}
			}
		}
		all = append(all, longer)
	}
	return all
}

// oddWalk returns the smallest one of the shortest odd walks that come back to where they began, or nil if there is none. A shortest odd walk back is a cycle, because one that comes to a vertex twice consists of two walks back, of which one is odd.
func oddWalk(g graph) []int {
	// ways[k][v][w] tells whether a walk of k edges leads from v to w.
	ways := [][][]bool{make([][]bool, g.n)}
	for v := range g.n {
		ways[0][v] = make([]bool, g.n)
		ways[0][v][v] = true
	}
	for k := 1; k <= g.n; k++ {
		ways = append(ways, make([][]bool, g.n))
		for v := range g.n {
			ways[k][v] = make([]bool, g.n)
			for w := range g.n {
				ways[k][v][w] = slices.ContainsFunc(g.edges, func(e api.Edge) bool {
					return e.A == v && ways[k-1][e.B][w] || e.B == v && ways[k-1][e.A][w]
				})
			}
		}
		for v := range g.n {
			if k%2 == 1 && ways[k][v][v] {
				return smallestWalk(g, ways, v, k)
			}
		}
	}
	return nil
}

// smallestWalk returns the smallest walk of k edges from v back to v, without its end.
func smallestWalk(g graph, ways [][][]bool, v, k int) []int {
	walk := []int{v}
	for left := k - 1; left > 0; left-- {
		at := walk[len(walk)-1]
		for next := range g.n {
			if isJoined(g.edges, at, next) && ways[left][next][v] {
				walk = append(walk, next)
				break
			}
		}
	}
	return walk
}

// isCycleOf reports whether a set of edges, which has a bit for each of them, is the one of an odd cycle: all of them, and no others, are on the way that begins with one of them, and goes on until it comes back.
func isCycleOf(edges []api.Edge, set int) bool {
	var chosen []api.Edge
	for i, e := range edges {
		if set>>i&1 == 1 {
			chosen = append(chosen, e)
		}
	}
	if len(chosen)%2 == 0 {
		return false
	}
	degrees := map[int]int{}
	for _, e := range chosen {
		degrees[e.A]++
		degrees[e.B]++
	}
	for _, degree := range degrees {
		if degree != 2 {
			return false
		}
	}
	reached := map[int]bool{chosen[0].A: true}
	for range chosen {
		for _, e := range chosen {
			if reached[e.A] || reached[e.B] {
				reached[e.A], reached[e.B] = true, true
			}
		}
	}
	return len(reached) == len(degrees)
}

// mostApart returns the greatest number of odd cycles that are apart, from the numbers for smaller sets of edges: the last edge of a set is in one of the cycles, or in none.
func mostApart(edges []api.Edge) int {
	var cycles []int
	most := make([]int, 1<<len(edges))
	for set := 1; set < len(most); set++ {
		if isCycleOf(edges, set) {
			cycles = append(cycles, set)
		}
		last := 1
		for last*2 <= set {
			last *= 2
		}
		most[set] = most[set-last]
		for _, c := range cycles {
			if c&last != 0 && c&set == c {
				most[set] = max(most[set], 1+most[set-c])
			}
		}
	}
	return most[len(most)-1]
}

// pairsOf returns the edges that n vertices can have, with a weight, in lexicographic order.
func pairsOf(n, weight int) []api.Edge {
	var all []api.Edge
	for a := range n {
		for b := a + 1; b < n; b++ {
			all = append(all, api.Edge{A: a, B: b, Weight: weight})
		}
	}
	return all
}

// graphsOf returns all graphs of n vertices with some weights.
func graphsOf(n int, weights ...int) []graph {
	lists := [][]api.Edge{nil}
	for _, e := range pairsOf(n, 0) {
		longer := slices.Clone(lists)
		for _, list := range lists {
			for _, weight := range weights {
				e.Weight = weight
				longer = append(longer, append(slices.Clone(list), e))
			}
		}
		lists = longer
	}
	var all []graph
	for _, list := range lists {
		all = append(all, graph{n, list})
	}
	return all
}

// weightedGraphs returns all graphs of at most three vertices with weights from -2 to 2, and all of four with -1 and 1.
func weightedGraphs() []graph {
	return slices.Concat(graphsOf(1), graphsOf(2, -2, -1, 0, 1, 2), graphsOf(3, -2, -1, 0, 1, 2), graphsOf(4, -1, 1))
}

// plainGraphs returns all graphs of at most five vertices with weights 1.
func plainGraphs() []graph {
	return slices.Concat(graphsOf(1, 1), graphsOf(2, 1), graphsOf(3, 1), graphsOf(4, 1), graphsOf(5, 1))
}

func newRandom() *rand.Rand { return rand.New(rand.NewPCG(5, 12)) }

// randomGraph returns a graph of at most most edges, in any order, with weights of an absolute value of at most weight.
func randomGraph(r *rand.Rand, n, most, weight int) graph {
	edges := pairsOf(n, 0)
	r.Shuffle(len(edges), func(i, k int) { edges[i], edges[k] = edges[k], edges[i] })
	edges = edges[:min(len(edges), most)]
	for i := range edges {
		edges[i].Weight = r.IntN(2*weight+1) - weight
	}
	return graph{n, edges}
}

// randomGraphs returns graphs of all sizes that are chosen at random, the same ones each time.
func randomGraphs() []graph {
	r := newRandom()
	var all []graph
	for n := 1; n <= api.MaxVertices; n++ {
		for _, weight := range []int{1, 3, api.MaxWeight} {
			all = append(all, randomGraph(r, n, r.IntN(api.MaxEdges+1), weight), randomGraph(r, n, n+r.IntN(4), weight), randomGraph(r, n, api.MaxEdges, weight))
		}
	}
	return all
}

// fewEdges returns graphs of at most MaxApart edges that are chosen at random, the same ones each time.
func fewEdges() []graph {
	r := newRandom()
	var all []graph
	for n := 4; n <= api.MaxVertices; n++ {
		for range 12 {
			all = append(all, randomGraph(r, n, api.MaxApart-r.IntN(3), 1))
		}
	}
	return all
}

// joined returns the graph of n vertices with edges of the weight 1 between those that follow each other in one of the lists.
func joined(n int, lists ...[]int) graph {
	var edges []api.Edge
	for _, list := range lists {
		for i := 1; i < len(list); i++ {
			edges = append(edges, api.Edge{A: min(list[i-1], list[i]), B: max(list[i-1], list[i]), Weight: 1})
		}
	}
	return graph{n, edges}
}

// circle returns the graph that is one cycle of n vertices, of which adjacent ones differ by step.
func circle(n, step int) graph {
	list := []int{0}
	for range n {
		list = append(list, (list[len(list)-1]+step)%n)
	}
	return joined(n, list)
}

// twoParts returns the graph in which each of a vertices is joined with each of b others.
func twoParts(a, b int) graph {
	edges := slices.DeleteFunc(pairsOf(a+b, 1), func(e api.Edge) bool { return (e.A < a) == (e.B < a) })
	return graph{a + b, edges}
}

// petersen returns the graph of ten vertices whose shortest cycles have five.
func petersen() graph {
	return joined(10, []int{0, 1, 2, 3, 4, 0}, []int{5, 7, 9, 6, 8, 5}, []int{0, 5}, []int{1, 6}, []int{2, 7}, []int{3, 8}, []int{4, 9})
}

// knownGraphs returns graphs of which something is special.
func knownGraphs() []graph {
	all := []graph{
		petersen(), twoParts(6, 6), twoParts(5, 7), twoParts(1, 11), {9, pairsOf(9, 1)}, {9, pairsOf(9, 50)}, {9, pairsOf(9, -50)}, {5, pairsOf(5, 1)}, {12, pairsOf(12, 50)[:40]}, {12, pairsOf(12, -50)[26:]},
		joined(12, []int{0, 1, 2, 3, 4, 5, 6, 7, 8, 9, 10, 0, 11, 3}), joined(12, []int{11, 10, 9, 8, 7, 6, 5, 4, 3, 2, 1, 11}, []int{5, 0, 7}),
		{12, append(twoParts(6, 6).edges, api.Edge{A: 10, B: 11, Weight: 1})}, joined(12, []int{0, 2, 4, 6, 8, 0}, []int{11, 9, 7, 5, 3, 1, 10, 11}),
	}
	for n := 3; n <= api.MaxVertices; n++ {
		all = append(all, circle(n, 1))
	}
	return append(all, circle(5, 2), circle(7, 3), circle(11, 4), circle(12, 5))
}

// someGraphs returns all kinds of graphs.
func someGraphs() []graph { return slices.Concat(weightedGraphs(), randomGraphs(), knownGraphs()) }

// noGraphs returns arguments that are no graph.
func noGraphs() []graph {
	var all []graph
	for _, n := range []int{math.MinInt, -12, -1, 0, api.MaxVertices + 1, 14, 64, 100, 1 << 32, math.MaxInt} {
		all = append(all, graph{n, nil}, graph{n, []api.Edge{}}, graph{n, pairsOf(3, 1)})
	}
	edge := api.Edge{A: 0, B: 1, Weight: 1}
	for _, e := range []api.Edge{
		{A: 0, B: 0, Weight: 1}, {A: 2, B: 2, Weight: 1}, {A: 1, B: 0, Weight: 1}, {A: 2, B: 1, Weight: 1}, {A: -1, B: 0, Weight: 1}, {A: -1, B: 2, Weight: 1}, {A: 0, B: 3, Weight: 1}, {A: 2, B: 3, Weight: 1}, {A: 3, B: 4, Weight: 1},
		{A: 0, B: 12, Weight: 1}, {A: math.MinInt, B: 1, Weight: 1}, {A: 0, B: math.MaxInt, Weight: 1}, {A: math.MinInt, B: math.MaxInt, Weight: 1}, {A: 1, B: -1, Weight: 1},
		{A: 0, B: 2, Weight: 51}, {A: 0, B: 2, Weight: -51}, {A: 1, B: 2, Weight: math.MaxInt}, {A: 1, B: 2, Weight: math.MinInt}, {A: 0, B: 2, Weight: 1 << 32}, edge, {A: 0, B: 1, Weight: -2}, {A: 0, B: 1}, {},
	} {
		all = append(all, graph{3, []api.Edge{edge, e}}, graph{3, []api.Edge{edge, {A: 1, B: 2}, e}})
		if e.A != 0 || e.B != 1 {
			all = append(all, graph{3, []api.Edge{e}}, graph{3, []api.Edge{e, edge}})
		}
	}
	return append(all,
		graph{1, []api.Edge{{}}}, graph{1, []api.Edge{edge}}, graph{2, []api.Edge{{A: 1, B: 2}}}, graph{11, []api.Edge{{A: 10, B: 11}}}, graph{12, []api.Edge{{A: 11, B: 12}}},
		graph{12, pairsOf(12, 1)[:41]}, graph{12, pairsOf(12, 1)}, graph{10, pairsOf(10, 0)}, graph{12, slices.Repeat(pairsOf(12, 1), 1000)}, graph{3, make([]api.Edge, 100000)}, graph{2, slices.Repeat([]api.Edge{edge}, 40)},
	)
}

// noSides returns strings that are no side of n vertices.
func noSides(n int) []string {
	side := strings.Repeat("01", n)[:n]
	all := []string{
		"", side[1:], side + "0", side + "1", side + side, " " + side, side[1:] + " ", side + "\x00", side[1:] + "2", "2" + side[1:], "/" + side[1:], side[1:] + "/", side[1:] + "\x00", side[1:] + "\xff", side[1:] + "a", "-" + side[1:], "O" + side[1:],
		side[1:] + "١", strings.Repeat("x", n), strings.Repeat("0", 1000000), strings.Repeat("1", n+64),
	}
	// Digits of two and of three bytes, in strings of n bytes.
	for _, digit := range []string{"١", "１"} {
		if len(digit) <= n {
			all = append(all, side[len(digit):]+digit)
		}
	}
	return all
}

// noGraphsOrSides visits what is no graph with strings that may be sides, and graphs with what is no side of them.
func noGraphsOrSides() iter.Seq2[graph, string] {
	return func(yield func(graph, string) bool) {
		for _, g := range noGraphs() {
			for _, side := range []string{"", "0", "01", "010", "2", strings.Repeat("01", 6)} {
				if !yield(g, side) {
					return
				}
			}
		}
		for n := 1; n <= api.MaxVertices; n++ {
			for _, side := range noSides(n) {
				if !yield(graph{n, nil}, side) || !yield(graph{n, pairsOf(n, 1)[:n/2]}, side) {
					return
				}
			}
		}
	}
}
