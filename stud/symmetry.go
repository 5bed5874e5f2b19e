package stud

import (
	"slices"

	"remould/api"
)

// symmetries is the number of symmetries.
const symmetries = 8

// board has the studs of an order, which it moves in place.
type board struct {
	rows []int
}

func (b *board) reverseColumns() { slices.Reverse(b.rows) }

func (b *board) reverseRows() {
	for i, row := range b.rows {
		b.rows[i] = len(b.rows) - 1 - row
	}
}

func (b *board) exchange() {
	columns := make([]int, len(b.rows))
	for i, row := range b.rows {
		columns[row] = i
	}
	b.rows = columns
}

// turned returns an order after the symmetry s, in new memory: each bit of s, from the lowest one on, asks for one of the moves.
func turned(order []int, s int) []int {
	b := &board{rows: slices.Clone(order)}
	for bit, move := range []func(){b.reverseColumns, b.reverseRows, b.exchange} {
		if s>>bit&1 == 1 {
			move()
		}
	}
	return b.rows
}

// Turn returns the order after the symmetry s.
func Turn(order []int, s int) ([]int, api.Errno) {
	if !isOrder(order) || s < 0 || s >= symmetries {
		return nil, api.ErrArg
	}
	return turned(order, s), api.OK
}

// First returns the smallest order that arises by a symmetry, and the number of different ones.
func First(order []int) ([]int, int, api.Errno) {
	if !isOrder(order) {
		return nil, 0, api.ErrArg
	}
	var all [][]int
	for s := range symmetries {
		all = append(all, turned(order, s))
	}
	slices.SortFunc(all, slices.Compare[[]int])
	all = slices.CompactFunc(all, slices.Equal[[]int])
	return all[0], len(all), api.OK
}
