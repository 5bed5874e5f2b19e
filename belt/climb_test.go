package belt_test

import (
	"slices"
	"testing"

	"remould/api"
	"remould/belt"
)

// someSides returns sides of n vertices: all of them if there are few.
func someSides(n int) []string {
	all := sidesOf(n)
	var some []string
	for i := 0; i < len(all); i += 1 + len(all)/60 {
		some = append(some, all[i])
	}
	return append(some, ones(n))
}

// gainsOf returns by how much the flips of a side increase the value.
func gainsOf(g graph, side string) []int {
	var all []int
	for vertex := range g.n {
		all = append(all, valueOf(g.edges, changed(side, single(g.n, vertex)))-valueOf(g.edges, side))
	}
	return all
}

// P5.2: Gains and Climb.
func TestGainsAndClimbAgainstValues(t *testing.T) {
	longest := 0
	for _, g := range someGraphs() {
		for _, side := range someSides(g.n) {
			want := gainsOf(g, side)
			if got, e := belt.Gains(g.n, g.edges, side); !slices.Equal(got, want) || e != api.OK {
				t.Errorf("Gains(%v, %q) = %v, %d, want %v", g, side, got, e, want)
			}
			top, flips := side, 0
			for {
				vertex := slices.IndexFunc(gainsOf(g, top), func(gain int) bool { return gain > 0 })
				if vertex < 0 {
					break
				}
				top = changed(top, single(g.n, vertex))
				flips++
			}
			longest = max(longest, flips)
			if got, number, e := belt.Climb(g.n, g.edges, side); got != top || number != flips || e != api.OK {
				t.Errorf("Climb(%v, %q) = %q, %d, %d, want %q, %d", g, side, got, number, e, top, flips)
			}
		}
	}
	if longest <= api.MaxVertices {
		t.Errorf("no climb has more than %d flips", longest)
	}
}

func TestGainsOfExamples(t *testing.T) {
	weighted := graph{4, []api.Edge{{A: 1, B: 3, Weight: -2}, {A: 0, B: 1, Weight: 5}, {A: 0, B: 3, Weight: 50}}}
	cases := []struct {
		g    graph
		side string
		want []int
	}{
		{graph{1, nil}, "0", []int{0}}, {graph{1, nil}, "1", []int{0}}, {graph{12, nil}, "010101010101", make([]int, 12)},
		{circle(3, 1), "000", []int{2, 2, 2}}, {circle(3, 1), "100", []int{-2, 0, 0}}, {circle(3, 1), "011", []int{-2, 0, 0}},
		{weighted, "0000", []int{55, 3, 0, 48}}, {weighted, "0001", []int{-45, 7, 0, -48}}, {weighted, "1000", []int{-55, -7, 0, -52}},
		{twoParts(1, 11), "000000000000", []int{11, 1, 1, 1, 1, 1, 1, 1, 1, 1, 1, 1}},
	}
	for _, c := range cases {
		if got, e := belt.Gains(c.g.n, c.g.edges, c.side); !slices.Equal(got, c.want) || e != api.OK {
			t.Errorf("Gains(%v, %q) = %v, %d, want %v", c.g, c.side, got, e, c.want)
		}
	}
}

func TestClimbOfExamples(t *testing.T) {
	cases := []struct {
		g     graph
		side  string
		want  string
		flips int
	}{
		{graph{1, nil}, "0", "0", 0}, {graph{1, nil}, "1", "1", 0}, {graph{12, nil}, "010101010101", "010101010101", 0},
		{circle(3, 1), "000", "100", 1}, {circle(3, 1), "111", "011", 1}, {circle(3, 1), "010", "010", 0},
		{circle(4, 1), "0000", "1010", 2}, {circle(4, 1), "0011", "0011", 0}, // a gain of 0 is none
		{circle(6, 1), "000000", "101010", 3}, {circle(5, 1), "11111", "01011", 2},
		{graph{2, []api.Edge{{A: 0, B: 1, Weight: -3}}}, "01", "11", 1}, {graph{2, []api.Edge{{A: 0, B: 1, Weight: -3}}}, "10", "00", 1}, {graph{2, []api.Edge{{A: 0, B: 1}}}, "00", "00", 0},
		// 0 goes over at first, and comes back when 1 has gone.
		{graph{3, []api.Edge{{A: 0, B: 1, Weight: 2}, {A: 0, B: 2, Weight: -1}, {A: 1, B: 2, Weight: 5}}}, "000", "010", 3},
	}
	for _, c := range cases {
		if got, flips, e := belt.Climb(c.g.n, c.g.edges, c.side); got != c.want || flips != c.flips || e != api.OK {
			t.Errorf("Climb(%v, %q) = %q, %d, %d, want %q, %d", c.g, c.side, got, flips, e, c.want, c.flips)
		}
	}
}

func TestGainsAndClimbWithInvalidArguments(t *testing.T) {
	for g, side := range noGraphsOrSides() {
		if got, e := belt.Gains(g.n, g.edges, side); len(got) != 0 || e != api.ErrArg {
			t.Errorf("Gains(%v, %.30q) = %v, %d", g, side, got, e)
		}
		if got, flips, e := belt.Climb(g.n, g.edges, side); got != "" || flips != 0 || e != api.ErrArg {
			t.Errorf("Climb(%v, %.30q) = %q, %d, %d", g, side, got, flips, e)
		}
	}
}
