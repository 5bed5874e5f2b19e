package stud

import (
	"iter"

	"remould/api"
)

// pair is two columns.
type pair struct {
	from, to int
}

// step tells how the stud of one column lies to that of another one.
type step struct {
	columns, rows int
}

func stepOf(rows []int, p pair) step {
	return step{p.to - p.from, rows[p.to] - rows[p.from]}
}

// steps visits all pairs of a column and a later one in lexicographic order, each with its step.
func steps(rows []int) iter.Seq2[pair, step] {
	return func(yield func(pair, step) bool) {
		for from := range rows {
			for to := from + 1; to < len(rows); to++ {
				p := pair{from, to}
				if !yield(p, stepOf(rows, p)) {
					return
				}
			}
		}
	}
}

// lastRepeats reports whether a step from an earlier column to the last one is there before. The steps to the last one differ from each other by their columns.
func lastRepeats(rows []int) bool {
	last := len(rows) - 1
	for from := range last {
		added := stepOf(rows, pair{from, last})
		for _, earlier := range steps(rows[:last]) {
			if earlier == added {
				return true
			}
		}
	}
	return false
}

// isClear reports whether no two pairs of columns have the same step; the columns may be a part of an order.
func isClear(rows []int) bool {
	for last := range rows {
		if lastRepeats(rows[:last+1]) {
			return false
		}
	}
	return true
}

// areRows reports whether a list has different rows of n columns, n at most MaxStuds, so that it has at most n of them.
func areRows(list []int, n int) bool {
	var used [api.MaxStuds]bool
	for _, row := range list {
		if row < 0 || row >= n || used[row] {
			return false
		}
		used[row] = true
	}
	return true
}

func isOrder(list []int) bool {
	return 1 <= len(list) && len(list) <= api.MaxStuds && areRows(list, len(list))
}
