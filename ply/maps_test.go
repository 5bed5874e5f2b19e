package ply_test

import (
	"math"
	"math/rand/v2"
	"slices"
	"testing"

	"remould/api"
	"remould/ply"
)

// checkSmooth compares Smooth with the number of all maps that are smooth.
func checkSmooth(t *testing.T, from, to []int) {
	t.Helper()
	want := 0
	for images := range mapsOf(len(from), len(to)) {
		if isSmooth(from, to, images) {
			want++
		}
	}
	if number, e := ply.Smooth(from, to); number != want || e != api.OK {
		t.Errorf("Smooth(%v, %v) = %d, %d, want %d", from, to, number, e, want)
	}
}

// checkSame compares Same with the first of all maps that are smooth and have a smooth inverse.
func checkSame(t *testing.T, from, to []int) {
	t.Helper()
	want, found := sameOf(from, to)
	images, e := ply.Same(from, to)
	if !slices.Equal(images, want) || found && e != api.OK || !found && e != api.ErrNone {
		t.Errorf("Same(%v, %v) = %v, %d, want %v", from, to, images, e, want)
	}
}

// P8.4: Smooth, with the example of the chapter and others.
func TestSmoothExamples(t *testing.T) {
	for _, x := range []struct {
		from, to []int
		want     int
	}{
		{[]int{1, 3}, []int{1, 3}, 3},
		{[]int{1, 3}, []int{3, 2}, 3},
		{[]int{1, 3}, []int{1, 2}, 2},
		{[]int{1, 2}, []int{1, 3}, 4},
		{[]int{3, 3}, []int{1, 3}, 2},
		{[]int{1}, []int{1, 2, 4, 8, 16, 32}, 6},
		{[]int{63, 63, 63, 63, 63, 63}, []int{1}, 1},
		{[]int{63, 63, 63, 63, 63, 63}, []int{1, 2, 4, 8, 16, 32}, 6},
		{[]int{1, 2, 4, 8, 16, 32}, []int{1, 2, 4, 8, 16, 32}, 46656},
		{[]int{1, 3, 7, 15, 31, 63}, []int{1, 3, 7, 15, 31, 63}, 462},
	} {
		if number, e := ply.Smooth(x.from, x.to); number != x.want || e != api.OK {
			t.Errorf("Smooth(%v, %v) = %d, %d", x.from, x.to, number, e)
		}
	}
}

// P8.4: Smooth and Same, with all pairs of spaces of up to three points.
func TestMapsOfSmallSpaces(t *testing.T) {
	for n := 1; n <= 3; n++ {
		for m := 1; m <= 3; m++ {
			for from := range spacesOf(n) {
				for to := range spacesOf(m) {
					checkSmooth(t, from, to)
					checkSame(t, from, to)
				}
			}
		}
	}
}

// P8.4: Smooth and Same, with spaces of any numbers of points.
func TestMapsOfSomeSpaces(t *testing.T) {
	random := rand.New(rand.NewPCG(8, 4))
	for n := 1; n <= api.MaxPoints; n++ {
		for m := 1; m <= api.MaxPoints; m++ {
			for range 4 {
				from, to := anySpace(random, n), anySpace(random, m)
				checkSmooth(t, from, to)
				checkSame(t, from, to)
			}
		}
	}
}

// renumbered returns the space in which point p has the number of the list at p.
func renumbered(cells, numbers []int) []int {
	other := make([]int, len(cells))
	for q, cell := range cells {
		for _, p := range pointsOf(cell) {
			other[numbers[q]] |= 1 << numbers[p]
		}
	}
	return other
}

// P8.4: Same finds the way back to a space with other numbers, and the first one if there are several; a space that differs in one point below another is not the same.
func TestSameOfRenumbered(t *testing.T) {
	random := rand.New(rand.NewPCG(8, 5))
	for n := 1; n <= api.MaxPoints; n++ {
		for range 25 {
			cells := anySpace(random, n)
			other := renumbered(cells, random.Perm(n))
			checkSame(t, cells, other)
			if images, e := ply.Same(cells, other); e != api.OK || !slices.Equal(renumbered(cells, images), other) {
				t.Errorf("Same(%v, %v) = %v, %d", cells, other, images, e)
			}
			p, q := random.IntN(n), random.IntN(n)
			other[p] ^= 1 << q
			if isSpace(other) {
				checkSame(t, cells, other)
			}
		}
	}
}

// P8.4: Same, with examples.
func TestSameExamples(t *testing.T) {
	for _, x := range []struct {
		from, to, want []int
	}{
		{[]int{1}, []int{1}, []int{0}},
		{[]int{1, 3}, []int{3, 2}, []int{1, 0}},
		{[]int{3, 3}, []int{3, 3}, []int{0, 1}},
		{[]int{1, 2, 7, 11}, []int{13, 14, 4, 8}, []int{2, 3, 0, 1}},
		{[]int{1, 2, 7, 11}, []int{1, 15, 5, 13}, nil},
		{[]int{1, 2}, []int{1, 3}, nil},                  // smooth, but its inverse is not
		{[]int{1, 3}, []int{1, 2}, nil},                  // the other way around
		{[]int{3, 3}, []int{1, 3}, nil},                  // all to one point
		{[]int{1, 3}, []int{1, 3, 4}, nil},               // the inverse is no map of all points
		{[]int{1, 3, 4}, []int{1, 3}, nil},               // no room
		{[]int{3, 3, 4}, []int{1, 6, 6}, []int{1, 2, 0}}, // alike to alike
	} {
		images, e := ply.Same(x.from, x.to)
		if !slices.Equal(images, x.want) || x.want != nil && e != api.OK || x.want == nil && e != api.ErrNone {
			t.Errorf("Same(%v, %v) = %v, %d", x.from, x.to, images, e)
		}
	}
}

// familiesOf counts the families of sets that contain the empty set, the set of all points, and the cut and the union of each two of their sets; plain are those where of each two points one lies in an open set without the other one.
func familiesOf(n int) (all, plain int) {
	for code := range 1 << (1 << n) {
		if !in(code, 0) || !in(code, whole(n)) {
			continue
		}
		var family []int
		for set := range 1 << n {
			if in(code, set) {
				family = append(family, set)
			}
		}
		if !isFamily(code, family) {
			continue
		}
		all++
		if isPlain(cellsOf(n, family)) {
			plain++
		}
	}
	return all, plain
}

// isFamily reports whether the cut and the union of each two sets of a family are in it.
func isFamily(code int, family []int) bool {
	for _, a := range family {
		for _, b := range family {
			if !in(code, a&b) || !in(code, a|b) {
				return false
			}
		}
	}
	return true
}

// P8.4: Count, with all families of open sets.
func TestCountAgainstFamilies(t *testing.T) {
	for n := 1; n <= api.MaxSpaces; n++ {
		all, plain := familiesOf(n)
		if gotAll, gotPlain, e := ply.Count(n); gotAll != all || gotPlain != plain || e != api.OK {
			t.Errorf("Count(%d) = %d, %d, %d, want %d, %d", n, gotAll, gotPlain, e, all, plain)
		}
	}
}

// P8.4: invalid arguments.
func TestMapErrors(t *testing.T) {
	for _, n := range []int{0, -1, api.MaxSpaces + 1, 64, math.MaxInt, math.MinInt} {
		if all, plain, e := ply.Count(n); all != 0 || plain != 0 || e != api.ErrArg {
			t.Errorf("Count(%d) = %d, %d, %d", n, all, plain, e)
		}
	}
	spaces := append(noCells(), []int{1, 3}, []int{1})
	for i, from := range spaces {
		for j, to := range spaces {
			if i >= len(noCells()) && j >= len(noCells()) {
				continue
			}
			if number, e := ply.Smooth(from, to); number != 0 || e != api.ErrArg {
				t.Errorf("Smooth(%v, %v) = %d, %d", from, to, number, e)
			}
			if images, e := ply.Same(from, to); len(images) != 0 || e != api.ErrArg {
				t.Errorf("Same(%v, %v) = %v, %d", from, to, images, e)
			}
		}
	}
}
