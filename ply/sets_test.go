package ply_test

import (
	"iter"
	"math/rand/v2"
	"slices"
	"testing"

	"remould/api"
	"remould/ply"
)

// pair is a set of points of a space.
type pair struct {
	cells []int
	set   int
}

// allPairs visits all sets in all spaces of up to four points, and some in some spaces of five and six.
func allPairs() iter.Seq[pair] {
	random := rand.New(rand.NewPCG(8, 3))
	return func(yield func(pair) bool) {
		for cells := range allSpaces() {
			sets := make([]int, 0, 16)
			for set := range 1 << len(cells) {
				if len(cells) <= api.MaxSpaces || set == 0 || set == whole(len(cells)) || random.IntN(8) == 0 {
					sets = append(sets, set)
				}
			}
			for _, set := range sets {
				if !yield(pair{cells, set}) {
					return
				}
			}
		}
	}
}

// P8.2: Closure, Inside and Edge, with the examples of the chapter.
func TestSetExamples(t *testing.T) {
	for _, x := range []struct {
		cells                      []int
		set, closure, inside, edge int
	}{
		{[]int{1, 3}, 0, 0, 0, 0},
		{[]int{1, 3}, 1, 3, 1, 2},
		{[]int{1, 3}, 2, 2, 0, 2},
		{[]int{1, 3}, 3, 3, 3, 0},
		{[]int{1, 2, 7, 11}, 1, 13, 1, 12},
		{[]int{1, 2, 7, 11}, 6, 14, 2, 12},
		{[]int{1, 2, 7, 11}, 12, 12, 0, 12},
	} {
		closure, e := ply.Closure(x.cells, x.set)
		inside, f := ply.Inside(x.cells, x.set)
		edge, g := ply.Edge(x.cells, x.set)
		if closure != x.closure || inside != x.inside || edge != x.edge || e != api.OK || f != api.OK || g != api.OK {
			t.Errorf("%v, %d: Closure = %d, %d, Inside = %d, %d, Edge = %d, %d", x.cells, x.set, closure, e, inside, f, edge, g)
		}
	}
}

// P8.2: Closure, Inside and Edge.
func TestSetsAgainstTerms(t *testing.T) {
	for x := range allPairs() {
		closure, inside := closureOf(x.cells, x.set), insideOf(x.cells, x.set)
		if got, e := ply.Closure(x.cells, x.set); got != closure || e != api.OK {
			t.Errorf("Closure(%v, %d) = %d, %d", x.cells, x.set, got, e)
		}
		if got, e := ply.Inside(x.cells, x.set); got != inside || e != api.OK {
			t.Errorf("Inside(%v, %d) = %d, %d", x.cells, x.set, got, e)
		}
		if got, e := ply.Edge(x.cells, x.set); got != closure-inside || e != api.OK {
			t.Errorf("Edge(%v, %d) = %d, %d", x.cells, x.set, got, e)
		}
	}
}

// P8.2: Fourteen; the order in which the sets are found shows.
func TestFourteenAgainstTerms(t *testing.T) {
	for _, x := range []struct {
		cells []int
		set   int
		want  []int
	}{
		{[]int{1}, 0, []int{0, 1}},
		{[]int{1}, 1, []int{1, 0}},
		{[]int{1, 3}, 1, []int{1, 3, 2, 0}},
		{[]int{1, 3}, 2, []int{2, 1, 3, 0}},
		{[]int{1, 2, 7, 11}, 6, []int{6, 14, 9, 1, 13, 2}},
	} {
		if sets, e := ply.Fourteen(x.cells, x.set); !slices.Equal(sets, x.want) || e != api.OK {
			t.Errorf("Fourteen(%v, %d) = %v, %d", x.cells, x.set, sets, e)
		}
	}
	for x := range allPairs() {
		if sets, e := ply.Fourteen(x.cells, x.set); !slices.Equal(sets, fourteenOf(x.cells, x.set)) || e != api.OK {
			t.Errorf("Fourteen(%v, %d) = %v, %d", x.cells, x.set, sets, e)
		}
	}
}

// P8.2: Pieces.
func TestPiecesAgainstTerms(t *testing.T) {
	for _, x := range []struct {
		cells []int
		set   int
		want  []int
	}{
		{[]int{1, 2, 7, 11}, 0, nil},
		{[]int{1, 2, 7, 11}, 15, []int{15}},
		{[]int{1, 2, 7, 11}, 14, []int{14}},
		{[]int{1, 2, 7, 11}, 12, []int{4, 8}},
		{[]int{1, 2, 7, 11}, 3, []int{1, 2}},
		{[]int{1, 10, 12, 8}, 15, []int{1, 14}},
		{[]int{1, 10, 12, 8}, 7, []int{1, 2, 4}},
		{[]int{9, 2, 6, 8}, 15, []int{9, 6}}, // by their smallest points, not by their codes
	} {
		if pieces, e := ply.Pieces(x.cells, x.set); !slices.Equal(pieces, x.want) || e != api.OK {
			t.Errorf("Pieces(%v, %d) = %v, %d", x.cells, x.set, pieces, e)
		}
	}
	for x := range allPairs() {
		if pieces, e := ply.Pieces(x.cells, x.set); !slices.Equal(pieces, piecesOf(x.cells, x.set)) || e != api.OK {
			t.Errorf("Pieces(%v, %d) = %v, %d", x.cells, x.set, pieces, e)
		}
	}
}

// checkSetErrors compares the answers of all functions of a space and a set with ErrArg.
func checkSetErrors(t *testing.T, cells []int, set int) {
	t.Helper()
	closure, e := ply.Closure(cells, set)
	inside, f := ply.Inside(cells, set)
	edge, g := ply.Edge(cells, set)
	if closure != 0 || inside != 0 || edge != 0 || e != api.ErrArg || f != api.ErrArg || g != api.ErrArg {
		t.Errorf("%v, %d: Closure = %d, %d, Inside = %d, %d, Edge = %d, %d", cells, set, closure, e, inside, f, edge, g)
	}
	fourteen, e := ply.Fourteen(cells, set)
	pieces, f := ply.Pieces(cells, set)
	part, g := ply.Part(cells, set)
	if len(fourteen) != 0 || len(pieces) != 0 || len(part) != 0 || e != api.ErrArg || f != api.ErrArg || g != api.ErrArg {
		t.Errorf("%v, %d: Fourteen = %v, %d, Pieces = %v, %d, Part = %v, %d", cells, set, fourteen, e, pieces, f, part, g)
	}
}

// P8.2, P8.3: cells that are not those of a space, and sets that are none.
func TestSetErrors(t *testing.T) {
	for _, cells := range noCells() {
		for _, set := range []int{0, 1, 2, -1, 64} {
			checkSetErrors(t, cells, set)
		}
	}
	for cells := range smallSpaces() {
		for _, set := range noSets(len(cells)) {
			checkSetErrors(t, cells, set)
		}
	}
	for _, set := range noSets(6) {
		checkSetErrors(t, []int{1, 2, 4, 11, 22, 37}, set)
	}
}
