package belt_test

import (
	"reflect"
	"slices"
	"strings"
	"testing"

	"remould/api"
	"remould/belt"
)

// P5.5: no side has a greater value than Best, and the ways to the values agree.
func TestBestIsGreatest(t *testing.T) {
	for _, g := range someGraphs() {
		side, greatest, e := belt.Best(g.n, g.edges)
		if value, eValue := belt.Value(g.n, g.edges, side); value != greatest || e != api.OK || eValue != api.OK {
			t.Fatalf("Best(%v) = %q, %d, %d, but the value is %d, %d", g, side, greatest, e, value, eValue)
		}
		values, e := belt.Values(g.n, g.edges)
		if e != api.OK || values[len(values)-1] != greatest {
			t.Errorf("Values(%v) = %v, %d, Best has %d", g, values, e, greatest)
		}
		most := -api.MaxEdges * api.MaxWeight
		for k := range g.n + 1 {
			_, value, _ := belt.Balanced(g.n, g.edges, k)
			most = max(most, value)
		}
		if most != greatest {
			t.Errorf("Balanced(%v) has the values up to %d, Best has %d", g, most, greatest)
		}
		for _, side := range someSides(g.n) {
			if value, e := belt.Value(g.n, g.edges, side); value > greatest || e != api.OK || !slices.Contains(values, value) {
				t.Errorf("Value(%v, %q) = %d, %d, Best has %d, Values are %v", g, side, value, e, greatest, values)
			}
		}
	}
}

// P5.5: if no weight is negative, Best is at least half of all.
func TestBestIsHalf(t *testing.T) {
	for _, g := range someGraphs() {
		sum := 0
		for i, e := range g.edges {
			g.edges[i].Weight = max(e.Weight, -e.Weight)
			sum += g.edges[i].Weight
		}
		if _, greatest, e := belt.Best(g.n, g.edges); greatest < (sum+1)/2 || e != api.OK {
			t.Errorf("Best(%v) has %d, %d of %d", g, greatest, e, sum)
		}
	}
}

// P5.5: after Climb no gain is positive, and the value has grown.
func TestNoGainAfterClimb(t *testing.T) {
	for _, g := range someGraphs() {
		for _, side := range someSides(g.n) {
			top, flips, e := belt.Climb(g.n, g.edges, side)
			gains, eGains := belt.Gains(g.n, g.edges, top)
			if e != api.OK || eGains != api.OK || slices.Max(gains) > 0 {
				t.Fatalf("Climb(%v, %q) = %q, %d with the gains %v, %d", g, side, top, e, gains, eGains)
			}
			before, _ := belt.Value(g.n, g.edges, side)
			after, _ := belt.Value(g.n, g.edges, top)
			if after < before+flips || flips == 0 && top != side {
				t.Errorf("Climb(%v, %q) = %q, %d with the values %d and %d", g, side, top, flips, before, after)
			}
		}
	}
}

// P5.5: Best, Apart and Sides of graphs with weights 1.
func TestBestAndApartAndSides(t *testing.T) {
	for _, g := range slices.Concat(plainGraphs(), fewEdges(), randomGraphs(), knownGraphs()) {
		for i := range g.edges {
			g.edges[i].Weight = 1
		}
		_, greatest, _ := belt.Best(g.n, g.edges)
		side, e := belt.Sides(g.n, g.edges)
		if (e == api.OK) != (greatest == len(g.edges)) {
			t.Errorf("%v: Sides %q, %d, Best has %d", g, side, e, greatest)
		}
		if _, eOdd := belt.Odd(g.n, g.edges); (e == api.OK) != (eOdd == api.ErrNone) {
			t.Errorf("%v: Sides has error %d, Odd %d", g, e, eOdd)
		}
		cycles, eApart := belt.Apart(g.n, g.edges)
		if eApart != api.OK {
			continue
		}
		if greatest > len(g.edges)-len(cycles) || (e == api.OK) != (len(cycles) == 0) {
			t.Errorf("%v: Apart %v, Best has %d, Sides error %d", g, cycles, greatest, e)
		}
		if number, e := belt.Check(g.n, g.edges, cycles); number != len(cycles) || e != api.OK {
			t.Errorf("Check(%v, %v) = %d, %d", g, cycles, number, e)
		}
	}
}

// P5.5: values after Switch.
func TestValuesAfterSwitch(t *testing.T) {
	for _, g := range someGraphs() {
		sides := someSides(g.n)
		for i, side := range sides {
			other := sides[(i*7+3)%len(sides)]
			switched, e := belt.Switch(g.n, g.edges, other)
			if e != api.OK {
				t.Fatalf("Switch(%v, %q): %d", g, other, e)
			}
			after, _ := belt.Value(g.n, switched, side)
			before, _ := belt.Value(g.n, g.edges, changed(side, other))
			less, _ := belt.Value(g.n, g.edges, other)
			if after != before-less {
				t.Errorf("%v: after Switch with %q the side %q has %d, not %d - %d", g, other, side, after, before, less)
			}
			if back, e := belt.Switch(g.n, switched, other); !slices.Equal(back, g.edges) || e != api.OK {
				t.Errorf("Switch(%v, %q) twice gives %v, %d", g, other, back, e)
			}
		}
	}
}

// P5.5: the opposite of a side has the same value.
func TestOppositeSides(t *testing.T) {
	for _, g := range someGraphs() {
		for _, side := range someSides(g.n) {
			opposite := changed(side, ones(g.n))
			value, e := belt.Value(g.n, g.edges, side)
			other, eOther := belt.Value(g.n, g.edges, opposite)
			if value != other || e != api.OK || eOther != api.OK {
				t.Errorf("%v: %q has %d, %q has %d", g, side, value, opposite, other)
			}
		}
	}
}

// calls returns all results of one call of each function.
func calls(g graph, side string, k int, cycles [][]int) []any {
	var all []any
	add := func(results ...any) { all = append(all, results...) }
	best, greatest, e := belt.Best(g.n, g.edges)
	add(best, greatest, e)
	value, e := belt.Value(g.n, g.edges, side)
	add(value, e)
	count, e := belt.Count(g.n, g.edges)
	add(count, e)
	top, flips, e := belt.Climb(g.n, g.edges, side)
	add(top, flips, e)
	gains, e := belt.Gains(g.n, g.edges, side)
	add(gains, e)
	sides, e := belt.Sides(g.n, g.edges)
	add(sides, e)
	odd, e := belt.Odd(g.n, g.edges)
	add(odd, e)
	apart, e := belt.Apart(g.n, g.edges)
	add(apart, e)
	number, e := belt.Check(g.n, g.edges, cycles)
	add(number, e)
	switched, e := belt.Switch(g.n, g.edges, side)
	add(switched, e)
	balanced, most, e := belt.Balanced(g.n, g.edges, k)
	add(balanced, most, e)
	values, e := belt.Values(g.n, g.edges)
	add(values, e)
	return all
}

// behind is what lies behind an argument in its memory.
var behind = api.Edge{A: -5, B: -6, Weight: -7}

// P1, P2 and rule 5: whatever the arguments are, a call returns, the same call twice returns the same, and it changes nothing that it was given.
func TestArgumentsStayAsTheyAre(t *testing.T) {
	for i, g := range slices.Concat(randomGraphs(), knownGraphs(), fewEdges(), noGraphs()) {
		memory := append(slices.Clone(g.edges), behind, behind)
		given := graph{g.n, memory[:len(g.edges)]}
		cycles := [][]int{[]int{0, 1, 2, -1, -2}[:3], {2, 1, 0}, nil}[:1+i%3]
		side := strings.Repeat("011", 12)[:max(0, min(g.n, 36))]
		first, second := calls(given, side, i%5, cycles), calls(given, side, i%5, cycles)
		if !reflect.DeepEqual(first, second) {
			t.Errorf("%v: one call returns %v, the next one %v", g, first, second)
		}
		if !slices.Equal(memory, append(slices.Clone(g.edges), behind, behind)) {
			t.Errorf("%v has become %s", g, brief(memory))
		}
		if !reflect.DeepEqual(cycles, [][]int{{0, 1, 2}, {2, 1, 0}, nil}[:1+i%3]) || !slices.Equal(cycles[0][:5], []int{0, 1, 2, -1, -2}) {
			t.Errorf("the cycles have become %v", cycles)
		}
	}
}

// spoil changes the memory of a list, and what may lie behind it.
func spoil[E any](list []E, with E) {
	_ = append(list, with, with, with, with)
	for i := range list {
		list[i] = with
	}
}

// Rule 5: results share no memory with arguments or with each other.
func TestResultsAreNewMemory(t *testing.T) {
	for _, g := range slices.Concat(knownGraphs(), fewEdges()) {
		edges := slices.Clone(g.edges)
		given := graph{g.n, edges}
		side := strings.Repeat("011", 4)[:g.n]
		cycles := [][]int{{0, 1, 2}}
		want, results := calls(given, side, 1, cycles), calls(given, side, 1, cycles)
		for i, result := range results {
			switch list := result.(type) {
			case []int:
				spoil(list, -1)
			case []api.Edge:
				spoil(list, behind)
			case [][]int:
				for k := range list {
					spoil(list[k], -1)
					if !reflect.DeepEqual(list[k+1:], want[i].([][]int)[k+1:]) {
						t.Fatalf("Apart(%v): the cycles %d share memory", g, k)
					}
				}
			}
			if !reflect.DeepEqual(results[i+1:], want[i+1:]) {
				t.Fatalf("%v: the results %d share memory", g, i)
			}
		}
		if got := calls(given, side, 1, cycles); !reflect.DeepEqual(got, want) || !slices.Equal(edges, g.edges) {
			t.Errorf("after a change of the results of %v the edges are %v, and the calls return %v, not %v", g, edges, got, want)
		}
	}
}
