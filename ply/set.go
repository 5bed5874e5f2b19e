package ply

import "remould/api"

// Closure returns the smallest closed set that contains the set.
func Closure(cells []int, set int) (int, api.Errno) {
	s, ok := newSpace(cells, set)
	if !ok {
		return 0, api.ErrArg
	}
	return s.closure(set), api.OK
}

// Inside returns the greatest open set in the set.
func Inside(cells []int, set int) (int, api.Errno) {
	s, ok := newSpace(cells, set)
	if !ok {
		return 0, api.ErrArg
	}
	return s.inside(set), api.OK
}

// Edge returns the closure of the set without its inside.
func Edge(cells []int, set int) (int, api.Errno) {
	s, ok := newSpace(cells, set)
	if !ok {
		return 0, api.ErrArg
	}
	return s.closure(set) &^ s.inside(set), api.OK
}

// Fourteen returns all sets that arise from the set by closures and complements, in the order in which they are found.
func Fourteen(cells []int, set int) ([]int, api.Errno) {
	s, ok := newSpace(cells, set)
	if !ok {
		return nil, api.ErrArg
	}
	sets := []int{set}
	found := map[int]bool{set: true}
	for i := 0; i < len(sets); i++ {
		for _, next := range [...]int{s.closure(sets[i]), s.complement(sets[i])} {
			if !found[next] {
				found[next] = true
				sets = append(sets, next)
			}
		}
	}
	return sets, api.OK
}

// piece returns the greatest joined set in the set that contains its point p. Two points one of which is below the other one are joined; and if no further point is below or above those that are found, they are open in the set, and so is the rest.
func (s space) piece(set, p int) int {
	t := s.turned()
	piece := 1 << p
	for {
		grown := set & (s.closure(piece) | t.closure(piece))
		if grown == piece {
			return piece
		}
		piece = grown
	}
}

// Pieces returns the greatest joined sets in the set, in ascending order of their smallest points.
func Pieces(cells []int, set int) ([]int, api.Errno) {
	s, ok := newSpace(cells, set)
	if !ok {
		return nil, api.ErrArg
	}
	var pieces []int
	taken := 0
	for p := range points(set) {
		if !has(taken, p) {
			piece := s.piece(set, p)
			taken |= piece
			pieces = append(pieces, piece)
		}
	}
	return pieces, api.OK
}
