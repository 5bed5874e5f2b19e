package ply_test

import (
	"math"
	"math/rand/v2"
	"slices"
	"testing"

	"remould/api"
	"remould/ply"
)

// P8.1: IsSpace, with all lists of up to three numbers that are codes.
func TestIsSpaceAgainstTerms(t *testing.T) {
	for n := 1; n <= 3; n++ {
		for cells := range mapsOf(n, 1<<n) {
			if is, e := ply.IsSpace(cells); is != isSpace(cells) || e != api.OK {
				t.Errorf("IsSpace(%v) = %t, %d", cells, is, e)
			}
		}
	}
}

// P8.1: IsSpace, with spaces of up to six points, and those that are one point away from them.
func TestIsSpaceNearSpaces(t *testing.T) {
	for cells := range allSpaces() {
		if is, e := ply.IsSpace(cells); !is || e != api.OK {
			t.Errorf("IsSpace(%v) = %t, %d", cells, is, e)
		}
		for p := range cells {
			for q := range cells {
				changed := slices.Clone(cells)
				changed[p] ^= 1 << q
				if is, e := ply.IsSpace(changed); is != isSpace(changed) || e != api.OK {
					t.Errorf("IsSpace(%v) = %t, %d", changed, is, e)
				}
			}
		}
	}
}

// P8.1: lists that are too short or too long, and numbers that are no codes, are an error; codes that are no cells are not.
func TestIsSpaceErrors(t *testing.T) {
	for _, cells := range noLists() {
		if is, e := ply.IsSpace(cells); is || e != api.ErrArg {
			t.Errorf("IsSpace(%v) = %t, %d", cells, is, e)
		}
	}
	for n := range api.MaxPoints {
		for _, set := range noSets(n + 1) {
			cells := make([]int, n+1)
			cells[n] = set
			if is, e := ply.IsSpace(cells); is || e != api.ErrArg {
				t.Errorf("IsSpace(%v) = %t, %d", cells, is, e)
			}
		}
	}
	for _, cells := range noCells()[len(noLists()):] {
		if is, e := ply.IsSpace(cells); is || e != api.OK {
			t.Errorf("IsSpace(%v) = %t, %d", cells, is, e)
		}
	}
}

// P8.1: Opens and Turned, with the examples of the chapter.
func TestSpaceExamples(t *testing.T) {
	for _, x := range []struct{ cells, opens, turned []int }{
		{[]int{1}, []int{0, 1}, []int{1}},
		{[]int{1, 3}, []int{0, 1, 3}, []int{3, 2}},
		{[]int{3, 3}, []int{0, 3}, []int{3, 3}},
		{[]int{1, 2}, []int{0, 1, 2, 3}, []int{1, 2}},
		{[]int{1, 2, 7, 11}, []int{0, 1, 2, 3, 7, 11, 15}, []int{13, 14, 4, 8}},
	} {
		opens, e := ply.Opens(x.cells)
		turned, f := ply.Turned(x.cells)
		if !slices.Equal(opens, x.opens) || !slices.Equal(turned, x.turned) || e != api.OK || f != api.OK {
			t.Errorf("%v: Opens = %v, %d, Turned = %v, %d", x.cells, opens, e, turned, f)
		}
	}
}

// P8.1: Opens.
func TestOpensAgainstTerms(t *testing.T) {
	for cells := range allSpaces() {
		if opens, e := ply.Opens(cells); !slices.Equal(opens, opensOf(cells)) || e != api.OK {
			t.Errorf("Opens(%v) = %v, %d", cells, opens, e)
		}
	}
}

// P8.1: Turned.
func TestTurnedAgainstClosedSets(t *testing.T) {
	for cells := range allSpaces() {
		var closed []int
		for set := range 1 << len(cells) {
			if isClosed(cells, set) {
				closed = append(closed, set)
			}
		}
		turned, e := ply.Turned(cells)
		if e != api.OK || !slices.Equal(turned, cellsOf(len(cells), closed)) || !slices.Equal(opensOf(turned), closed) {
			t.Errorf("Turned(%v) = %v, %d", cells, turned, e)
		}
		if back, _ := ply.Turned(turned); !slices.Equal(back, cells) {
			t.Errorf("Turned(%v) = %v", turned, back)
		}
	}
}

// checkFrom compares From with the unions of cuts themselves.
func checkFrom(t *testing.T, n int, sets []int) {
	t.Helper()
	opens := fromOf(n, sets)
	cells, e := ply.From(n, sets)
	if e != api.OK || !slices.Equal(cells, cellsOf(n, opens)) || !slices.Equal(opensOf(cells), opens) {
		t.Errorf("From(%d, %v) = %v, %d", n, sets, cells, e)
	}
}

// P8.1: From, with all sets of sets of up to three points.
func TestFromAllSets(t *testing.T) {
	for n := 1; n <= 3; n++ {
		for code := range 1 << (1 << n) {
			var sets []int
			for set := range 1 << n {
				if in(code, set) {
					sets = append(sets, set)
				}
			}
			checkFrom(t, n, sets)
		}
	}
}

// P8.1: From, with sets in any order, some of them several times.
func TestFromSomeSets(t *testing.T) {
	random := rand.New(rand.NewPCG(8, 2))
	for n := 1; n <= api.MaxPoints; n++ {
		checkFrom(t, n, nil)
		checkFrom(t, n, []int{0, whole(n), 0, whole(n)})
		for range 60 {
			sets := make([]int, random.IntN(8))
			for i := range sets {
				sets[i] = random.IntN(1 << n)
			}
			checkFrom(t, n, sets)
		}
	}
	checkFrom(t, 6, make([]int, 10000))
}

// P8.1: a space arises from its open sets, and from its cells.
func TestFromOpens(t *testing.T) {
	for cells := range allSpaces() {
		for _, sets := range [][]int{cells, opensOf(cells)} {
			if from, e := ply.From(len(cells), sets); !slices.Equal(from, cells) || e != api.OK {
				t.Errorf("From(%d, %v) = %v, %d", len(cells), sets, from, e)
			}
		}
	}
}

// P8.1: invalid arguments of From.
func TestFromErrors(t *testing.T) {
	for _, n := range []int{0, -1, api.MaxPoints + 1, 63, 64, 65, math.MaxInt, math.MinInt} {
		for _, sets := range [][]int{nil, {0}, {1}, {-1}} {
			if cells, e := ply.From(n, sets); len(cells) != 0 || e != api.ErrArg {
				t.Errorf("From(%d, %v) = %v, %d", n, sets, cells, e)
			}
		}
	}
	for n := 1; n <= api.MaxPoints; n++ {
		for _, set := range noSets(n) {
			for _, sets := range [][]int{{set}, {1, 0, set}, {set, 1}} {
				if cells, e := ply.From(n, sets); len(cells) != 0 || e != api.ErrArg {
					t.Errorf("From(%d, %v) = %v, %d", n, sets, cells, e)
				}
			}
		}
	}
}

// P8.1: cells that are not those of a space.
func TestSpaceErrors(t *testing.T) {
	for _, cells := range noCells() {
		if opens, e := ply.Opens(cells); len(opens) != 0 || e != api.ErrArg {
			t.Errorf("Opens(%v) = %v, %d", cells, opens, e)
		}
		if turned, e := ply.Turned(cells); len(turned) != 0 || e != api.ErrArg {
			t.Errorf("Turned(%v) = %v, %d", cells, turned, e)
		}
	}
}
