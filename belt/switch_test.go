package belt_test

import (
	"slices"
	"testing"

	"remould/api"
	"remould/belt"
)

// P5.4: Switch.
func TestSwitchAgainstCutEdges(t *testing.T) {
	for _, g := range someGraphs() {
		for _, side := range someSides(g.n) {
			want := slices.Clone(g.edges)
			for i, e := range g.edges {
				if cuts(side, e) {
					want[i].Weight *= -1
				}
			}
			if got, e := belt.Switch(g.n, g.edges, side); !slices.Equal(got, want) || e != api.OK {
				t.Errorf("Switch(%v, %q) = %v, %d, want %v", g, side, got, e, want)
			}
		}
	}
}

func TestSwitchOfExamples(t *testing.T) {
	edges := []api.Edge{{A: 1, B: 2, Weight: -4}, {A: 0, B: 3, Weight: 50}, {A: 0, B: 1}, {A: 2, B: 3, Weight: 7}}
	cases := []struct {
		g    graph
		side string
		want []int
	}{
		{graph{1, nil}, "1", nil}, {graph{12, []api.Edge{}}, "010101010101", nil},
		{graph{4, edges}, "0000", []int{-4, 50, 0, 7}}, {graph{4, edges}, "1111", []int{-4, 50, 0, 7}}, {graph{4, edges}, "1000", []int{-4, -50, 0, 7}}, {graph{4, edges}, "0101", []int{4, -50, 0, -7}},
	}
	for _, c := range cases {
		got, e := belt.Switch(c.g.n, c.g.edges, c.side)
		if len(got) != len(c.want) || e != api.OK {
			t.Fatalf("Switch(%v, %q) = %v, %d", c.g, c.side, got, e)
		}
		for i, weight := range c.want {
			if want := (api.Edge{A: c.g.edges[i].A, B: c.g.edges[i].B, Weight: weight}); got[i] != want {
				t.Errorf("Switch(%v, %q) has %v at %d, want %v", c.g, c.side, got[i], i, want)
			}
		}
	}
}

func TestSwitchWithInvalidArguments(t *testing.T) {
	for g, side := range noGraphsOrSides() {
		if got, e := belt.Switch(g.n, g.edges, side); len(got) != 0 || e != api.ErrArg {
			t.Errorf("Switch(%v, %.30q) = %s, %d", g, side, brief(got), e)
		}
	}
}
