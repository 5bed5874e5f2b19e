package ply

import (
	"iter"

	"remould/api"
)

// lists visits all lists of n numbers from 0 to m - 1, in lexicographic order: the maps of n points to m points. What follows the n numbers is 0.
func lists(n, m int) iter.Seq[[api.MaxPoints]int] {
	return func(yield func([api.MaxPoints]int) bool) {
		var list [api.MaxPoints]int
		for yield(list) {
			last := n - 1
			for last >= 0 && list[last] == m-1 {
				list[last] = 0
				last--
			}
			if last < 0 {
				return
			}
			list[last]++
		}
	}
}

// isWithin reports whether the cells of s are parts of those of t.
func (s space) isWithin(t space) bool {
	for p, cell := range s {
		if cell&^t[p] != 0 {
			return false
		}
	}
	return true
}

// areDifferent reports whether no two of the points are the same.
func areDifferent(images []int) bool {
	set := 0
	for _, image := range images {
		if has(set, image) {
			return false
		}
		set |= 1 << image
	}
	return true
}

// Smooth returns the number of smooth maps from s to t.
func Smooth(s, t []int) (int, api.Errno) {
	from, ok := newSpace(s)
	to, alsoOk := newSpace(t)
	if !ok || !alsoOk {
		return 0, api.ErrArg
	}
	number := 0
	for images := range lists(len(s), len(t)) {
		if from.isWithin(to.pulled(images[:len(s)]...)) {
			number++
		}
	}
	return number, api.OK
}

// Same returns the lexicographically smallest map that shows that s and t are the same but for the numbers of their points.
func Same(s, t []int) ([]int, api.Errno) {
	from, ok := newSpace(s)
	to, alsoOk := newSpace(t)
	if !ok || !alsoOk {
		return nil, api.ErrArg
	}
	if len(s) != len(t) {
		// A map to more points has no inverse.
		return nil, api.ErrNone
	}
	for list := range lists(len(s), len(t)) {
		images := list[:len(s)]
		if areDifferent(images) && to.pulled(images...) == from {
			return images, api.OK
		}
	}
	return nil, api.ErrNone
}

// Count returns the number of spaces with n points, and the number of plain ones among them.
func Count(n int) (int, int, api.Errno) {
	if n < 1 || n > api.MaxSpaces {
		return 0, 0, api.ErrArg
	}
	spaces, plain := 0, 0
	for cells := range lists(n, 1<<n) {
		s, ok := newSpace(cells[:n])
		if ok {
			spaces++
		}
		if ok && s.isPlain() {
			plain++
		}
	}
	return spaces, plain, api.OK
}
