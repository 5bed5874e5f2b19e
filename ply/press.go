package ply

import (
	"slices"

	"remould/api"
)

// unlike returns the points that are like no smaller one.
func (s space) unlike() int {
	unlike := 0
	found := map[int]bool{}
	for p, cell := range s.list() {
		if !found[cell] {
			found[cell] = true
			unlike |= 1 << p
		}
	}
	return unlike
}

// isPlain reports whether no two points are alike.
func (s space) isPlain() bool {
	return s.complement(s.unlike()) == 0
}

// drops reports whether the points of the set that are below its point p, other than p, are those that are below another point of the set.
func (s space) drops(set, p int) bool {
	for q := range points(set &^ (1 << p)) {
		if s[q]&set == s[p]&set&^(1<<p) {
			return true
		}
	}
	return false
}

// loose returns the smallest loose point of the space of the points that are left.
func (s space) loose(left int) (point int, found bool) {
	t := s.turned()
	for p := range points(left) {
		if s.drops(left, p) || t.drops(left, p) {
			return p, true
		}
	}
	return 0, false
}

// core returns the points that are left of a space when it is pressed together.
func (s space) core() int {
	left := s.unlike()
	for p, found := s.loose(left); found; p, found = s.loose(left) {
		left &^= 1 << p
	}
	return left
}

// Core returns the points of the core, in ascending order.
func Core(cells []int) ([]int, api.Errno) {
	s, ok := newSpace(cells)
	if !ok {
		return nil, api.ErrArg
	}
	return slices.Collect(points(s.core())), api.OK
}

// Part returns the cells of the space of the points of a set, whose open sets are those of the given one cut with the set.
func Part(cells []int, set int) ([]int, api.Errno) {
	s, ok := newSpace(cells, set)
	if !ok || set == 0 {
		return nil, api.ErrArg
	}
	return s.pulled(slices.Collect(points(set))...).list(), api.OK
}

// chains counts the lists of points, each below the next one, that end with p: those of an odd number of points less those of an even number. No two points of the space are alike, so that the points of a list are different.
func (s space) chains(p int) int {
	number := 1
	for q := range points(s[p] &^ (1 << p)) {
		number -= s.chains(q)
	}
	return number
}

// Chains returns, for a plain space, the number of lists of an odd number of different points, each below the next one, less the number of those of an even number from 2 on.
func Chains(cells []int) (int, api.Errno) {
	s, ok := newSpace(cells)
	if !ok {
		return 0, api.ErrArg
	}
	if !s.isPlain() {
		return 0, api.ErrNone
	}
	number := 0
	for p := range s.size() {
		number += s.chains(p)
	}
	return number, api.OK
}
