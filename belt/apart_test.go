package belt_test

import (
	"math"
	"slices"
	"testing"

	"remould/api"
	"remould/belt"
)

// P5.3 and P3: Apart.
func TestApartAgainstSetsOfEdges(t *testing.T) {
	numbers := map[int]int{}
	for _, g := range slices.Concat(weightedGraphs(), plainGraphs(), fewEdges(), knownGraphs()) {
		if len(g.edges) > api.MaxApart {
			continue
		}
		want := mostApart(g.edges)
		numbers[want]++
		got, e := belt.Apart(g.n, g.edges)
		if len(got) != want || e != api.OK {
			t.Errorf("Apart(%v) = %v, %d, want %d cycles", g, got, e, want)
		}
		if slices.ContainsFunc(got, func(list []int) bool { return !isOddCycle(g, list) }) || !areApart(got) || !slices.IsSortedFunc(got, slices.Compare[[]int]) {
			t.Errorf("Apart(%v) = %v", g, got)
		}
	}
	for want := range 4 {
		if numbers[want] == 0 {
			t.Errorf("no graph has %d cycles that are apart: %v", want, numbers)
		}
	}
}

func TestApartOfExamples(t *testing.T) {
	cases := []struct {
		g    graph
		want [][]int
	}{
		{graph{1, nil}, nil}, {graph{12, nil}, nil}, {circle(4, 1), nil}, {circle(12, 1), nil}, {twoParts(3, 4), nil}, {twoParts(1, 11), nil},
		{circle(3, 1), [][]int{{0, 1, 2}}}, {circle(5, 2), [][]int{{0, 2, 4, 1, 3}}}, {circle(11, 1), [][]int{{0, 1, 2, 3, 4, 5, 6, 7, 8, 9, 10}}},
		{joined(9, []int{0, 1, 2, 0, 3, 4, 0, 5, 6, 0, 7, 8, 0}), [][]int{{0, 1, 2}, {0, 3, 4}, {0, 5, 6}, {0, 7, 8}}},
		{joined(12, []int{3, 4, 5, 3}, []int{9, 10, 11, 9}, []int{0, 1, 2, 0}, []int{6, 7, 8, 6}), [][]int{{0, 1, 2}, {3, 4, 5}, {6, 7, 8}, {9, 10, 11}}},
		{joined(6, []int{0, 1, 2, 0, 3, 1, 4, 2, 5, 0}), [][]int{{0, 1, 3}, {0, 2, 5}, {1, 2, 4}}}, // but 0 1 2 has an edge of each of them
		{joined(12, []int{0, 2, 4, 6, 8, 0}, []int{11, 9, 7, 5, 3, 1, 10, 11}), [][]int{{0, 2, 4, 6, 8}, {1, 3, 5, 7, 9, 11, 10}}},
		{joined(7, []int{0, 1, 2, 3, 4, 0, 5, 6, 0}), [][]int{{0, 1, 2, 3, 4}, {0, 5, 6}}},
	}
	for _, c := range cases {
		if got, e := belt.Apart(c.g.n, c.g.edges); !slices.EqualFunc(got, c.want, slices.Equal[[]int]) || e != api.OK {
			t.Errorf("Apart(%v) = %v, %d, want %v", c.g, got, e, c.want)
		}
	}
	octahedron := graph{6, slices.DeleteFunc(pairsOf(6, 1), func(e api.Edge) bool { return e.A+e.B == 5 })}
	for _, c := range []struct {
		g      graph
		number int
	}{{graph{4, pairsOf(4, 1)}, 1}, {graph{5, pairsOf(5, 1)}, 2}, {octahedron, 4}} {
		if got, e := belt.Apart(c.g.n, c.g.edges); len(got) != c.number || e != api.OK {
			t.Errorf("Apart(%v) = %v, %d, want %d cycles", c.g, got, e, c.number)
		}
	}
}

func TestApartWithInvalidArguments(t *testing.T) {
	refuse := func(g graph) {
		t.Helper()
		if got, e := belt.Apart(g.n, g.edges); len(got) != 0 || e != api.ErrArg {
			t.Errorf("Apart(%v) = %v, %d", g, got, e)
		}
	}
	for _, g := range noGraphs() {
		refuse(g)
	}
	for more := api.MaxApart + 1; more <= api.MaxEdges; more++ {
		refuse(graph{12, pairsOf(12, 1)[:more]})
	}
	refuse(twoParts(3, 5))
	if got, e := belt.Apart(12, pairsOf(12, 1)[:api.MaxApart]); len(got) != 1 || e != api.OK {
		t.Errorf("Apart with %d edges: %v, %d", api.MaxApart, got, e)
	}
}

func checkCheck(t *testing.T, g graph, cycles [][]int, is bool) {
	t.Helper()
	want, wantE := len(cycles), api.OK
	if !is {
		want, wantE = 0, api.ErrAnswer
	}
	if got, e := belt.Check(g.n, g.edges, cycles); got != want || e != wantE {
		t.Errorf("Check(%v, %s) = %d, %d, want %d, %d", g, brief(cycles), got, e, want, wantE)
	}
}

// P5.3: Check.
func TestCheckAgainstAllLists(t *testing.T) {
	lists := map[int][][]int{}
	for n := 1; n <= 5; n++ {
		lists[n] = slices.Concat(differentLists(n)...)
	}
	for i, g := range slices.Concat(weightedGraphs(), plainGraphs()) {
		if g.n == 5 && i%5 > 0 {
			continue
		}
		var cycles [][]int
		for _, list := range lists[g.n] {
			is := isOddCycle(g, list)
			checkCheck(t, g, [][]int{list}, is)
			if is {
				cycles = append(cycles, list)
			}
		}
		for k, first := range cycles {
			for _, second := range cycles[k:] {
				checkCheck(t, g, [][]int{first, second}, areApart([][]int{first, second}))
				checkCheck(t, g, [][]int{second, first}, areApart([][]int{first, second}))
			}
		}
	}
}

func TestCheckOfApartAndOdd(t *testing.T) {
	for _, g := range slices.Concat(randomGraphs(), knownGraphs(), fewEdges()) {
		if list, e := belt.Odd(g.n, g.edges); e == api.OK {
			checkCheck(t, g, [][]int{list}, true)
			checkCheck(t, g, [][]int{list, list}, false)
		}
		if cycles, e := belt.Apart(g.n, g.edges); e == api.OK {
			checkCheck(t, g, cycles, true)
			slices.Reverse(cycles)
			checkCheck(t, g, cycles, true)
		}
		checkCheck(t, g, nil, true)
		checkCheck(t, g, [][]int{}, true)
	}
}

func TestCheckOfExamples(t *testing.T) {
	whole := graph{5, pairsOf(5, 1)}
	great := graph{9, pairsOf(9, 0)}
	cases := []struct {
		g      graph
		cycles [][]int
		is     bool
	}{
		{graph{1, nil}, nil, true}, {circle(3, 1), [][]int{{0, 1, 2}}, true}, {circle(11, 1), [][]int{{0, 1, 2, 3, 4, 5, 6, 7, 8, 9, 10}}, true},
		{whole, [][]int{{0, 1, 2}, {0, 3, 4}}, true}, {whole, [][]int{{0, 3, 4}, {0, 1, 2}}, true}, {whole, [][]int{{0, 1, 2, 3, 4}, {0, 2, 4, 1, 3}}, true},
		{great, [][]int{{0, 1, 2}, {3, 4, 5}, {6, 7, 8}, {0, 3, 6}, {1, 4, 7}, {2, 5, 8}, {0, 4, 8}, {1, 5, 6}, {2, 3, 7}, {0, 5, 7}, {1, 3, 8}, {2, 4, 6}}, true},
		{great, [][]int{{0, 1, 2}, {3, 4, 5}, {6, 7, 8}, {0, 3, 6}, {1, 4, 7}, {2, 5, 8}, {0, 4, 8}, {1, 5, 6}, {2, 3, 7}, {0, 5, 7}, {1, 3, 8}, {2, 4, 6}, {0, 1, 2}}, false},
		{whole, [][]int{{0, 1, 2}, {0, 1, 3}}, false}, {whole, [][]int{{0, 1, 2}, {2, 3, 4}, {0, 2, 4}}, false}, {whole, [][]int{{0, 1, 2}, {0, 1, 2}}, false},
		{whole, [][]int{{0, 1, 2, 3}}, false}, {whole, [][]int{{0, 2, 1}}, false}, {whole, [][]int{{1, 0, 2}}, false}, {whole, [][]int{{1, 2, 0}}, false}, {whole, [][]int{{2, 0, 1}}, false},
		{whole, [][]int{nil}, false}, {whole, [][]int{{}}, false}, {whole, [][]int{{0}}, false}, {whole, [][]int{{0, 1}}, false}, {whole, [][]int{{0, 1, 2}, nil}, false}, {whole, [][]int{{0, 1, 2}, {0}}, false},
		{whole, [][]int{{0, 1, 1}}, false}, {whole, [][]int{{0, 0, 1}}, false}, {whole, [][]int{{0, 1, 0}}, false}, {whole, [][]int{{0, 0, 0}}, false}, {whole, [][]int{{0, 1, 2, 1, 3}}, false}, {whole, [][]int{{0, 1, 2, 0, 3}}, false}, {whole, [][]int{{0, 1, 2, 3, 4, 0, 5}}, false},
		{whole, [][]int{{0, 1, 5}}, false}, {whole, [][]int{{-1, 0, 1}}, false}, {whole, [][]int{{0, -1, 1}}, false}, {whole, [][]int{{0, 1, 12}}, false}, {whole, [][]int{{math.MinInt, 1, 2}}, false}, {whole, [][]int{{0, 1, math.MaxInt}}, false}, {whole, [][]int{{3, 4, 5}}, false}, {whole, [][]int{{10, 11, 12}}, false}, {graph{12, pairsOf(12, 1)[:40]}, [][]int{{0, 1, 12}}, false}, {graph{12, pairsOf(12, 1)[:40]}, [][]int{{0, 12, 13}}, false},
		{whole, [][]int{make([]int, 1000001)}, false}, {whole, make([][]int, 100000), false}, {whole, slices.Repeat([][]int{{0, 1, 2}}, 100000), false},
		{circle(5, 1), [][]int{{0, 1, 2}}, false}, {circle(5, 1), [][]int{{0, 1, 3}}, false}, {circle(5, 1), [][]int{{0, 1, 4}}, false}, {circle(5, 1), [][]int{{0, 1, 2, 4, 3}}, false}, {circle(5, 1), [][]int{{0, 4, 3, 2, 1}}, false},
		{graph{3, nil}, [][]int{{0, 1, 2}}, false}, {graph{1, nil}, [][]int{{0, 1, 2}}, false}, {graph{2, pairsOf(2, 1)}, [][]int{{0, 1, 0}}, false},
	}
	for _, c := range cases {
		checkCheck(t, c.g, c.cycles, c.is)
	}
	for _, g := range noGraphs() {
		for _, cycles := range [][][]int{nil, {{0, 1, 2}}, {nil}, {{0, 1}}, {{0, 1, 2}, {0, 1, 2}}} {
			if got, e := belt.Check(g.n, g.edges, cycles); got != 0 || e != api.ErrArg {
				t.Errorf("Check(%v, %v) = %d, %d", g, cycles, got, e)
			}
		}
	}
}
