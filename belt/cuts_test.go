package belt_test

import (
	"math"
	"slices"
	"strings"
	"testing"

	"remould/api"
	"remould/belt"
)

// P5.1 and P4: Best and Count.
func TestBestAndCountAgainstAllSides(t *testing.T) {
	for _, g := range someGraphs() {
		side, value, number := bestOf(g.edges, properSidesOf(g.n))
		if got, greatest, e := belt.Best(g.n, g.edges); got != side || greatest != value || e != api.OK {
			t.Errorf("Best(%v) = %q, %d, %d, want %q, %d", g, got, greatest, e, side, value)
		}
		if got, e := belt.Count(g.n, g.edges); got != number || e != api.OK {
			t.Errorf("Count(%v) = %d, %d, want %d", g, got, e, number)
		}
	}
}

func TestBestAndCountOfExamples(t *testing.T) {
	cases := []struct {
		g     graph
		side  string
		value int
		count int
	}{
		{graph{1, nil}, "0", 0, 1}, {graph{1, []api.Edge{}}, "0", 0, 1}, {graph{3, nil}, "000", 0, 4}, {graph{12, nil}, "000000000000", 0, 2048},
		{circle(3, 1), "001", 2, 3}, {graph{2, []api.Edge{{A: 0, B: 1, Weight: -3}}}, "00", 0, 1}, {graph{2, []api.Edge{{A: 0, B: 1, Weight: 3}}}, "01", 3, 1}, {graph{2, []api.Edge{{A: 0, B: 1}}}, "00", 0, 2},
		{graph{3, []api.Edge{{A: 1, B: 2, Weight: 50}, {A: 0, B: 1, Weight: 50}, {A: 0, B: 2, Weight: 49}}}, "010", 100, 1},
		{graph{3, []api.Edge{{A: 0, B: 1, Weight: -50}, {A: 0, B: 2, Weight: 50}, {A: 1, B: 2, Weight: 1}}}, "001", 51, 1},
		{circle(5, 1), "00101", 4, 5}, {circle(4, 1), "0101", 4, 1}, {graph{4, pairsOf(4, 1)}, "0011", 4, 3}, {graph{5, pairsOf(5, 1)}, "00011", 6, 10}, {petersen(), "0010111000", 12, 5},
		{twoParts(6, 6), "000000111111", 36, 1}, {twoParts(1, 11), "011111111111", 11, 1}, {graph{9, pairsOf(9, 50)}, "000001111", 1000, 126}, {graph{9, pairsOf(9, -50)}, "000000000", 0, 1},
	}
	for _, c := range cases {
		if side, value, e := belt.Best(c.g.n, c.g.edges); side != c.side || value != c.value || e != api.OK {
			t.Errorf("Best(%v) = %q, %d, %d, want %q, %d", c.g, side, value, e, c.side, c.value)
		}
		if count, e := belt.Count(c.g.n, c.g.edges); count != c.count || e != api.OK {
			t.Errorf("Count(%v) = %d, %d, want %d", c.g, count, e, c.count)
		}
	}
	for _, g := range noGraphs() {
		if side, value, e := belt.Best(g.n, g.edges); side != "" || value != 0 || e != api.ErrArg {
			t.Errorf("Best(%v) = %q, %d, %d", g, side, value, e)
		}
		if count, e := belt.Count(g.n, g.edges); count != 0 || e != api.ErrArg {
			t.Errorf("Count(%v) = %d, %d", g, count, e)
		}
	}
}

// P5.1: Value.
func TestValueAgainstCutEdges(t *testing.T) {
	for _, g := range someGraphs() {
		for i, side := range sidesOf(g.n) {
			// Of the many sides of many vertices some are enough.
			if g.n > 8 && i%37 > 0 {
				continue
			}
			want := valueOf(g.edges, side)
			if got, e := belt.Value(g.n, g.edges, side); got != want || e != api.OK {
				t.Errorf("Value(%v, %q) = %d, %d, want %d", g, side, got, e, want)
			}
		}
	}
}

func TestValueOfExamples(t *testing.T) {
	cases := []struct {
		g    graph
		side string
		want int
	}{
		{graph{1, nil}, "0", 0}, {graph{1, nil}, "1", 0}, {circle(3, 1), "000", 0}, {circle(3, 1), "111", 0}, {circle(3, 1), "100", 2}, {circle(3, 1), "011", 2},
		{graph{3, []api.Edge{{A: 0, B: 2, Weight: -7}, {A: 0, B: 1, Weight: 50}, {A: 1, B: 2}}}, "110", -7}, {graph{3, []api.Edge{{A: 0, B: 2, Weight: -7}, {A: 0, B: 1, Weight: 50}, {A: 1, B: 2}}}, "100", 43},
		{graph{12, pairsOf(12, -50)[26:]}, "000000000000", 0}, {twoParts(6, 6), "000000111111", 36}, {graph{12, []api.Edge{{A: 10, B: 11, Weight: 9}}}, "000000000001", 9}, {graph{12, []api.Edge{{A: 0, B: 11, Weight: 9}}}, "111111111110", 9},
	}
	for _, c := range cases {
		if got, e := belt.Value(c.g.n, c.g.edges, c.side); got != c.want || e != api.OK {
			t.Errorf("Value(%v, %q) = %d, %d, want %d", c.g, c.side, got, e, c.want)
		}
	}
}

func TestValueWithInvalidArguments(t *testing.T) {
	for g, side := range noGraphsOrSides() {
		if got, e := belt.Value(g.n, g.edges, side); got != 0 || e != api.ErrArg {
			t.Errorf("Value(%v, %.30q) = %d, %d", g, side, got, e)
		}
	}
}

// P5.1 and P4: Balanced.
func TestBalancedAgainstAllSides(t *testing.T) {
	for _, g := range someGraphs() {
		sides := make([][]string, g.n+1)
		for _, side := range sidesOf(g.n) {
			k := strings.Count(side, "1")
			sides[k] = append(sides[k], side)
		}
		for k := range sides {
			want, value, _ := bestOf(g.edges, sides[k])
			if got, greatest, e := belt.Balanced(g.n, g.edges, k); got != want || greatest != value || e != api.OK {
				t.Errorf("Balanced(%v, %d) = %q, %d, %d, want %q, %d", g, k, got, greatest, e, want, value)
			}
		}
	}
}

func TestBalancedOfExamples(t *testing.T) {
	star := graph{3, []api.Edge{{A: 0, B: 1, Weight: 1}, {A: 0, B: 2, Weight: 1}}}
	cases := []struct {
		g     graph
		k     int
		want  string
		value int
	}{
		{graph{1, nil}, 0, "0", 0}, {graph{1, nil}, 1, "1", 0}, {graph{12, nil}, 12, "111111111111", 0}, {graph{12, nil}, 6, "000000111111", 0},
		{star, 1, "100", 2}, {star, 2, "011", 2}, // not a proper side
		{graph{2, []api.Edge{{A: 0, B: 1, Weight: -3}}}, 1, "01", -3}, {graph{2, []api.Edge{{A: 0, B: 1, Weight: -3}}}, 2, "11", 0},
		{circle(4, 1), 2, "0101", 4}, {circle(5, 1), 1, "00001", 2}, {circle(5, 1), 2, "00101", 4}, {circle(5, 1), 4, "01111", 2}, {graph{9, pairsOf(9, -50)}, 4, "000001111", -1000},
	}
	for _, c := range cases {
		if got, value, e := belt.Balanced(c.g.n, c.g.edges, c.k); got != c.want || value != c.value || e != api.OK {
			t.Errorf("Balanced(%v, %d) = %q, %d, %d, want %q, %d", c.g, c.k, got, value, e, c.want, c.value)
		}
	}
	refuse := func(g graph, k int) {
		t.Helper()
		if got, value, e := belt.Balanced(g.n, g.edges, k); got != "" || value != 0 || e != api.ErrArg {
			t.Errorf("Balanced(%v, %d) = %q, %d, %d", g, k, got, value, e)
		}
	}
	for n := 1; n <= api.MaxVertices; n++ {
		for _, k := range []int{math.MinInt, -n, -1, n + 1, n + 2, 13, 16, 1 << 32, math.MaxInt} {
			refuse(graph{n, nil}, k)
		}
	}
	for _, g := range noGraphs() {
		for _, k := range []int{-1, 0, 1, 2, g.n} {
			refuse(g, k)
		}
	}
}

// P5.1: Values.
func TestValuesAgainstAllSides(t *testing.T) {
	for _, g := range someGraphs() {
		var want []int
		for _, side := range sidesOf(g.n) {
			want = append(want, valueOf(g.edges, side))
		}
		slices.Sort(want)
		want = slices.Compact(want)
		if got, e := belt.Values(g.n, g.edges); !slices.Equal(got, want) || e != api.OK {
			t.Errorf("Values(%v) = %v, %d, want %v", g, got, e, want)
		}
	}
}

func TestValuesOfExamples(t *testing.T) {
	cases := []struct {
		g    graph
		want []int
	}{
		{graph{1, nil}, []int{0}}, {graph{12, nil}, []int{0}}, {circle(3, 1), []int{0, 2}}, {graph{2, []api.Edge{{A: 0, B: 1, Weight: -3}}}, []int{-3, 0}}, {circle(5, 1), []int{0, 2, 4}},
		{graph{3, []api.Edge{{A: 0, B: 1, Weight: 2}, {A: 1, B: 2, Weight: -5}}}, []int{-5, -3, 0, 2}}, {twoParts(1, 11), []int{0, 1, 2, 3, 4, 5, 6, 7, 8, 9, 10, 11}},
		{graph{9, pairsOf(9, -50)}, []int{-1000, -900, -700, -400, 0}},
	}
	for _, c := range cases {
		if got, e := belt.Values(c.g.n, c.g.edges); !slices.Equal(got, c.want) || e != api.OK {
			t.Errorf("Values(%v) = %v, %d, want %v", c.g, got, e, c.want)
		}
	}
	for _, g := range noGraphs() {
		if got, e := belt.Values(g.n, g.edges); len(got) != 0 || e != api.ErrArg {
			t.Errorf("Values(%v) = %v, %d", g, got, e)
		}
	}
}
