package belt_test

import (
	"slices"
	"testing"

	"remould/api"
	"remould/belt"
)

// graphsOfSix returns some of the graphs of six vertices.
func graphsOfSix() []graph {
	var some []graph
	for i, g := range graphsOf(6, 1) {
		if i%29 == 0 {
			some = append(some, g)
		}
	}
	return some
}

func allCut(edges []api.Edge, side string) bool {
	return !slices.ContainsFunc(edges, func(e api.Edge) bool { return !cuts(side, e) })
}

// P5.3 and P4: Sides.
func TestSidesAgainstAllSides(t *testing.T) {
	for _, g := range slices.Concat(someGraphs(), plainGraphs(), graphsOfSix(), fewEdges()) {
		want, wantE := "", api.ErrNone
		for _, side := range sidesOf(g.n) {
			if allCut(g.edges, side) {
				want, wantE = side, api.OK
				break
			}
		}
		if got, e := belt.Sides(g.n, g.edges); got != want || e != wantE {
			t.Errorf("Sides(%v) = %q, %d, want %q, %d", g, got, e, want, wantE)
		}
	}
}

func TestSidesOfExamples(t *testing.T) {
	cases := []struct {
		g    graph
		want string
		e    api.Errno
	}{
		{graph{1, nil}, "0", api.OK}, {graph{12, nil}, "000000000000", api.OK}, {circle(3, 1), "", api.ErrNone}, {circle(4, 1), "0101", api.OK}, {circle(11, 1), "", api.ErrNone}, {circle(12, 1), "010101010101", api.OK},
		{graph{4, []api.Edge{{A: 2, B: 3, Weight: -50}}}, "0001", api.OK}, {graph{4, []api.Edge{{A: 1, B: 3}, {A: 1, B: 2}}}, "0011", api.OK}, // edges of all weights
		{graph{3, []api.Edge{{A: 0, B: 1}, {A: 0, B: 2}, {A: 1, B: 2}}}, "", api.ErrNone}, {graph{12, []api.Edge{{A: 10, B: 11}, {A: 9, B: 11}, {A: 9, B: 10}}}, "", api.ErrNone},
		{twoParts(5, 7), "000001111111", api.OK}, {petersen(), "", api.ErrNone},
	}
	for _, c := range cases {
		if got, e := belt.Sides(c.g.n, c.g.edges); got != c.want || e != c.e {
			t.Errorf("Sides(%v) = %q, %d, want %q, %d", c.g, got, e, c.want, c.e)
		}
	}
	for _, g := range noGraphs() {
		if got, e := belt.Sides(g.n, g.edges); got != "" || e != api.ErrArg {
			t.Errorf("Sides(%v) = %q, %d", g, got, e)
		}
	}
}

func checkOdd(t *testing.T, g graph, want []int) {
	t.Helper()
	wantE := api.OK
	if len(want) == 0 {
		wantE = api.ErrNone
	}
	if got, e := belt.Odd(g.n, g.edges); !slices.Equal(got, want) || e != wantE {
		t.Errorf("Odd(%v) = %v, %d, want %v, %d", g, got, e, want, wantE)
	}
}

// P5.3 and P4: Odd.
func TestOddAgainstAllLists(t *testing.T) {
	lists := map[int][][][]int{}
	for n := 1; n <= 6; n++ {
		lists[n] = differentLists(n)
	}
	for _, g := range slices.Concat(weightedGraphs(), plainGraphs(), graphsOfSix()) {
		// From shorter lists to longer ones, the first one is the smallest of the shortest.
		var want []int
		for _, list := range slices.Concat(lists[g.n]...) {
			if isOddCycle(g, list) {
				want = list
				break
			}
		}
		checkOdd(t, g, want)
	}
}

func TestOddAgainstWalks(t *testing.T) {
	lengths := map[int]int{}
	for _, g := range slices.Concat(randomGraphs(), knownGraphs(), fewEdges(), graphsOfSix()) {
		want := oddWalk(g)
		if len(want) > 0 && !isOddCycle(g, want) {
			t.Fatalf("%v has the walk %v", g, want)
		}
		lengths[len(want)]++
		checkOdd(t, g, want)
	}
	for k := 3; k <= 11; k += 2 {
		if lengths[k] == 0 {
			t.Errorf("no graph has shortest odd cycles of %d: %v", k, lengths)
		}
	}
}

func TestOddOfExamples(t *testing.T) {
	cases := []struct {
		g    graph
		want []int
	}{
		{graph{1, nil}, nil}, {graph{12, nil}, nil}, {circle(3, 1), []int{0, 1, 2}}, {circle(4, 1), nil}, {circle(5, 1), []int{0, 1, 2, 3, 4}}, {circle(5, 2), []int{0, 2, 4, 1, 3}},
		{circle(11, 1), []int{0, 1, 2, 3, 4, 5, 6, 7, 8, 9, 10}}, {circle(12, 1), nil}, {twoParts(6, 6), nil}, {petersen(), []int{0, 1, 2, 3, 4}},
		{joined(7, []int{0, 1, 2, 3, 4, 0}, []int{4, 5, 6, 4}), []int{4, 5, 6}}, // shorter before smaller
		{joined(6, []int{0, 5, 3, 0, 4, 3}), []int{0, 3, 4}},
		{joined(12, []int{11, 10, 9, 8, 7, 6, 5, 4, 3, 2, 1, 11}, []int{5, 0, 7}), []int{0, 5, 4, 3, 2, 1, 11, 10, 9, 8, 7}},
		{graph{4, []api.Edge{{A: 2, B: 3, Weight: -50}, {A: 1, B: 2}, {A: 1, B: 3, Weight: 50}}}, []int{1, 2, 3}}, // edges of all weights
		{graph{12, append(twoParts(6, 6).edges, api.Edge{A: 10, B: 11, Weight: 1})}, []int{0, 10, 11}},
	}
	for _, c := range cases {
		checkOdd(t, c.g, c.want)
	}
	for _, g := range noGraphs() {
		if got, e := belt.Odd(g.n, g.edges); len(got) != 0 || e != api.ErrArg {
			t.Errorf("Odd(%v) = %v, %d", g, got, e)
		}
	}
}
