package ply

import (
	"iter"

	"remould/api"
)

// space has the cell of each of its points, and after them 0, which no cell is.
type space [api.MaxPoints]int

// areSets reports whether n points may be those of a space, and each number is the code of a set of them.
func areSets(n int, sets ...int) bool {
	if n < 1 || n > api.MaxPoints {
		return false
	}
	for _, set := range sets {
		if set < 0 || set >= 1<<n {
			return false
		}
	}
	return true
}

// newSpace returns the space with these cells, and whether there is such a space, with these sets of points.
func newSpace(cells []int, sets ...int) (space, bool) {
	n := len(cells)
	if !areSets(n, sets...) {
		return space{}, false
	}
	var s space
	copy(s[:], cells)
	// Cells are open, so that a space is the one that its cells generate; and whatever generates it, what is generated is a space.
	return s, s == generated(n, cells...)
}

// generated returns the space of n points that has the fewest open sets, if the given ones are to be open.
func generated(n int, sets ...int) space {
	var s space
	for p := range n {
		s[p] = 1<<n - 1
		for _, set := range sets {
			if has(set, p) {
				s[p] &= set
			}
		}
	}
	return s
}

// size returns the number of points.
func (s space) size() int {
	n := 0
	for n < len(s) && s[n] != 0 {
		n++
	}
	return n
}

// list returns the cells.
func (s space) list() []int {
	return s[:s.size()]
}

// complement returns the points that are not in the set.
func (s space) complement(set int) int {
	return 1<<s.size() - 1 - set
}

// closure returns the smallest closed set that contains the set: the points whose cells have no point of the set are those of the greatest open set beside it.
func (s space) closure(set int) int {
	closed := 0
	for p, cell := range s {
		if cell&set != 0 {
			closed |= 1 << p
		}
	}
	return closed
}

// inside returns the greatest open set in the set.
func (s space) inside(set int) int {
	return s.complement(s.closure(s.complement(set)))
}

// turned returns the space whose open sets are the closed ones of s.
func (s space) turned() space {
	var t space
	for p := range s.size() {
		t[p] = s.closure(1 << p)
	}
	return t
}

// pulled returns the space of points of which p is below q if the image of p in s is below that of q.
func (s space) pulled(images ...int) space {
	var t space
	for q, above := range images {
		for p, below := range images {
			if has(s[above], below) {
				t[q] |= 1 << p
			}
		}
	}
	return t
}

// has reports whether the point is in the set.
func has(set, point int) bool {
	return set>>point&1 == 1
}

// points visits the points of a set, in ascending order.
func points(set int) iter.Seq[int] {
	return func(yield func(int) bool) {
		for p := range api.MaxPoints {
			if has(set, p) && !yield(p) {
				return
			}
		}
	}
}
