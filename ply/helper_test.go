package ply_test

import (
	"iter"
	"math"
	"math/bits"
	"math/rand/v2"
	"slices"

	"remould/api"
)

// The helpers below follow the chapter word by word, without any code of the package, so that the tests compare two ways to the same result.

// in reports whether a point is in a set.
func in(set, p int) bool { return set&(1<<p) != 0 }

// whole returns the set of n points.
func whole(n int) int { return 1<<n - 1 }

// isSpace reports whether the cell of each point contains the point, and those of all its points.
func isSpace(cells []int) bool {
	for p, cell := range cells {
		if !in(cell, p) {
			return false
		}
		for q, other := range cells {
			if in(cell, q) && other&cell != other {
				return false
			}
		}
	}
	return true
}

// isOpen reports whether a set contains the cells of all its points.
func isOpen(cells []int, set int) bool {
	for p, cell := range cells {
		if in(set, p) && set|cell != set {
			return false
		}
	}
	return true
}

// isClosed reports whether the complement of a set is open.
func isClosed(cells []int, set int) bool { return isOpen(cells, whole(len(cells))^set) }

// opensOf returns all open sets, in ascending order.
func opensOf(cells []int) []int {
	var opens []int
	for set := range 1 << len(cells) {
		if isOpen(cells, set) {
			opens = append(opens, set)
		}
	}
	return opens
}

// closureOf returns the closed set of the fewest points that contains the set.
func closureOf(cells []int, set int) int {
	best := whole(len(cells))
	for other := range 1 << len(cells) {
		if other&set == set && isClosed(cells, other) && bits.OnesCount(uint(other)) < bits.OnesCount(uint(best)) {
			best = other
		}
	}
	return best
}

// insideOf returns the open set of the most points in the set.
func insideOf(cells []int, set int) int {
	best := 0
	for _, other := range opensOf(cells) {
		if other&set == other && bits.OnesCount(uint(other)) > bits.OnesCount(uint(best)) {
			best = other
		}
	}
	return best
}

// cellsOf returns the cells of the space of n points with these open sets: each the open set of the fewest points in which the point lies.
func cellsOf(n int, opens []int) []int {
	cells := make([]int, n)
	for p := range n {
		cells[p] = whole(n)
		for _, set := range opens {
			if in(set, p) && bits.OnesCount(uint(set)) < bits.OnesCount(uint(cells[p])) {
				cells[p] = set
			}
		}
	}
	return cells
}

// closedUnder adds to the sets, in ascending order, what an operation makes of two of them, as long as there is more.
func closedUnder(sets []int, operation func(a, b int) int) []int {
	all := slices.Clone(sets)
	for {
		more := slices.Clone(all)
		for _, a := range all {
			for _, b := range all {
				more = append(more, operation(a, b))
			}
		}
		slices.Sort(more)
		more = slices.Compact(more)
		if len(more) == len(all) {
			return all
		}
		all = more
	}
}

// fromOf returns the unions of the cuts of some of the sets, with the set of all points and the empty set, in ascending order.
func fromOf(n int, sets []int) []int {
	first := append([]int{0, whole(n)}, sets...)
	slices.Sort(first)
	cuts := closedUnder(slices.Compact(first), func(a, b int) int { return a & b })
	return closedUnder(cuts, func(a, b int) int { return a | b })
}

// fourteenOf returns the sets that arise from a set by closures and complements.
func fourteenOf(cells []int, set int) []int {
	list := []int{set}
	for i := 0; i < len(list); i++ {
		if closure := closureOf(cells, list[i]); !slices.Contains(list, closure) {
			list = append(list, closure)
		}
		if complement := whole(len(cells)) ^ list[i]; !slices.Contains(list, complement) {
			list = append(list, complement)
		}
	}
	return list
}

// isJoined reports whether a set is not empty, and not the union of two non-empty sets without a common point, both of them open in it.
func isJoined(cells []int, set int) bool {
	openIn := map[int]bool{}
	for _, open := range opensOf(cells) {
		openIn[open&set] = true
	}
	for one := range openIn {
		if one != 0 && one != set && openIn[set&^one] {
			return false
		}
	}
	return set != 0
}

// piecesOf returns the joined sets in the set that are parts of no greater one, in ascending order of their smallest points.
func piecesOf(cells []int, set int) []int {
	var joined []int
	for other := range 1 << len(cells) {
		if other&set == other && isJoined(cells, other) {
			joined = append(joined, other)
		}
	}
	var greatest []int
	for _, one := range joined {
		if !slices.ContainsFunc(joined, func(other int) bool { return other != one && other&one == one }) {
			greatest = append(greatest, one)
		}
	}
	slices.SortFunc(greatest, func(a, b int) int {
		return bits.TrailingZeros(uint(a)) - bits.TrailingZeros(uint(b))
	})
	return greatest
}

// pointsOf returns the points of a set.
func pointsOf(set int) []int {
	var points []int
	for p := range api.MaxPoints {
		if in(set, p) {
			points = append(points, p)
		}
	}
	return points
}

// partOf returns the cells of the part of a space: it is found by its open sets.
func partOf(cells []int, set int) []int {
	points := pointsOf(set)
	var opens []int
	for _, open := range opensOf(cells) {
		cut := 0
		for i, p := range points {
			if in(open, p) {
				cut |= 1 << i
			}
		}
		opens = append(opens, cut)
	}
	return cellsOf(len(points), opens)
}

// isPlain reports whether no two points have the same cell.
func isPlain(cells []int) bool {
	for p := range cells {
		if slices.Contains(cells[:p], cells[p]) {
			return false
		}
	}
	return true
}

// below returns the points below q, above those that q is below.
func below(cells []int, q int) []int { return pointsOf(cells[q]) }

func above(cells []int, q int) []int {
	var points []int
	for p, cell := range cells {
		if in(cell, q) {
			points = append(points, p)
		}
	}
	return points
}

// without returns the points other than p.
func without(points []int, p int) []int {
	return slices.DeleteFunc(slices.Clone(points), func(q int) bool { return q == p })
}

// isLoose reports whether a point of a plain space is loose.
func isLoose(cells []int, p int) bool {
	for q := range cells {
		if q != p && (slices.Equal(without(below(cells, p), p), below(cells, q)) || slices.Equal(without(above(cells, p), p), above(cells, q))) {
			return true
		}
	}
	return false
}

// coreOf returns the points of the core: the points that are left are a space of their own.
func coreOf(cells []int) []int {
	var left []int
	for p := range cells {
		if !slices.Contains(cells[:p], cells[p]) {
			left = append(left, p)
		}
	}
	for i := 0; i < len(left); i++ {
		set := 0
		for _, p := range left {
			set |= 1 << p
		}
		if isLoose(partOf(cells, set), i) {
			left = slices.Delete(left, i, i+1)
			i = -1
		}
	}
	return left
}

// chainsOf counts all lists of different points, each below the next one.
func chainsOf(cells []int, list ...int) int {
	number := 0
	if len(list) > 0 {
		number = -1
		if len(list)%2 == 1 {
			number = 1
		}
	}
	for p, cell := range cells {
		if !slices.Contains(list, p) && (len(list) == 0 || in(cell, list[len(list)-1])) {
			number += chainsOf(cells, append(slices.Clone(list), p)...)
		}
	}
	return number
}

// mapsOf visits all maps from n points to m points, in lexicographic order.
func mapsOf(n, m int) iter.Seq[[]int] {
	return func(yield func([]int) bool) {
		number := 1
		for range n {
			number *= m
		}
		for code := range number {
			images := make([]int, n)
			for p := n - 1; p >= 0; p-- {
				images[p] = code % m
				code /= m
			}
			if !yield(images) {
				return
			}
		}
	}
}

// isSmooth reports whether for every p below q the image of p is below that of q.
func isSmooth(s, t, images []int) bool {
	for q, cell := range s {
		for p := range s {
			if in(cell, p) && !in(t[images[q]], images[p]) {
				return false
			}
		}
	}
	return true
}

// inverseOf returns the inverse of a map to m points, and whether there is one.
func inverseOf(images []int, m int) ([]int, bool) {
	inverse := make([]int, m)
	for q := range m {
		p := slices.Index(images, q)
		if p < 0 {
			return nil, false
		}
		inverse[q] = p
	}
	return inverse, len(images) == m
}

// sameOf returns the first map that is smooth and has a smooth inverse, and whether there is one.
func sameOf(s, t []int) ([]int, bool) {
	for images := range mapsOf(len(s), len(t)) {
		inverse, found := inverseOf(images, len(t))
		if found && isSmooth(s, t, images) && isSmooth(t, s, inverse) {
			return images, true
		}
	}
	return nil, false
}

// spacesOf visits all spaces with n points.
func spacesOf(n int) iter.Seq[[]int] {
	return func(yield func([]int) bool) {
		for cells := range mapsOf(n, 1<<n) {
			if isSpace(cells) && !yield(cells) {
				return
			}
		}
	}
}

// smallSpaces visits all spaces of up to four points.
func smallSpaces() iter.Seq[[]int] {
	return func(yield func([]int) bool) {
		for n := range api.MaxSpaces {
			for cells := range spacesOf(n + 1) {
				if !yield(cells) {
					return
				}
			}
		}
	}
}

// anySpace returns a space of n points: who is below whom is drawn, and then carried on.
func anySpace(random *rand.Rand, n int) []int {
	cells := make([]int, n)
	among := 1 + random.IntN(8)
	for q := range cells {
		cells[q] = 1 << q
		for p := range n {
			if random.IntN(among) == 0 {
				cells[q] |= 1 << p
			}
		}
	}
	for !isSpace(cells) {
		for q := range cells {
			for _, p := range pointsOf(cells[q]) {
				cells[q] |= cells[p]
			}
		}
	}
	return cells
}

// plainSpace returns a plain space of n points, numbered in any order.
func plainSpace(random *rand.Rand, n int) []int {
	for {
		if cells := anySpace(random, n); isPlain(cells) {
			return cells
		}
	}
}

// someSpaces returns spaces of five and six points.
func someSpaces() [][]int {
	random := rand.New(rand.NewPCG(8, 1))
	spaces := [][]int{
		{1, 2, 4, 8, 16, 32},
		{63, 63, 63, 63, 63, 63},
		{1, 3, 7, 15, 31, 63},
		{63, 62, 60, 56, 48, 32},
		{1, 2, 7, 11, 31, 47}, // two poles, an equator of two points, two more poles
		{1, 2, 4, 11, 22, 37}, // a circle of six points
		{2 | 1, 2, 2 | 4, 14, 16, 16 | 32},
	}
	for range 150 {
		spaces = append(spaces, anySpace(random, 5), anySpace(random, 6), plainSpace(random, 5), plainSpace(random, 6))
	}
	return spaces
}

// allSpaces visits all spaces of up to four points, and some of five and six.
func allSpaces() iter.Seq[[]int] {
	return func(yield func([]int) bool) {
		for cells := range smallSpaces() {
			if !yield(cells) {
				return
			}
		}
		for _, cells := range someSpaces() {
			if !yield(cells) {
				return
			}
		}
	}
}

// noSets returns numbers that are no sets of n points.
func noSets(n int) []int {
	return []int{-1, 1 << n, 1<<n + 1, -1 << n, 64, 1 << 32, math.MaxInt, math.MinInt}
}

// noLists returns lists of which IsSpace says that they are no cells.
func noLists() [][]int {
	return [][]int{
		nil, {}, {1, 2, 4, 8, 16, 32, 64}, {127, 127, 127, 127, 127, 127, 127}, make([]int, 1000),
		{-1}, {2}, {1, 4}, {4, 2}, {-1, 3}, {1, -2}, {1, 2, 8}, {1, 2, 4, 8, 16, 64}, {math.MaxInt}, {math.MinInt, 2}, {1<<32 + 1}, {1, 1<<32 + 2},
	}
}

// noCells returns lists that are not the cells of a space.
func noCells() [][]int {
	return append(noLists(), []int{0}, []int{0, 2}, []int{1, 0}, []int{2, 1}, []int{3, 6, 4}, []int{1, 1}, []int{5, 2, 6}, []int{1, 2, 4, 8, 16, 0}, []int{1, 3, 6})
}
