package stud

import (
	"iter"
	"slices"

	"remould/api"
)

func isCounted(n int) bool { return 1 <= n && n <= api.MaxCount }

// clearOrders visits, in lexicographic order, all clear orders of n columns that begin with start, a list of different rows. The order is the same memory each time.
func clearOrders(start []int, n int) iter.Seq[[]int] {
	return func(yield func([]int) bool) {
		order := make([]int, n)
		copy(order, start)
		var place func(at int) bool
		place = func(at int) bool {
			if at == n {
				return yield(order)
			}
			for row := range n {
				if slices.Contains(order[:at], row) {
					continue
				}
				order[at] = row
				// A step that is there twice stays so, whatever follows.
				if !lastRepeats(order[:at+1]) && !place(at+1) {
					return false
				}
			}
			return true
		}
		if isClear(start) {
			place(len(start))
		}
	}
}

// Count returns the number of clear orders of n columns.
func Count(n int) (int, api.Errno) {
	if !isCounted(n) {
		return 0, api.ErrArg
	}
	count := 0
	for range clearOrders(nil, n) {
		count++
	}
	return count, api.OK
}

// Item returns the clear order of n columns that has k clear ones before it.
func Item(n, k int) ([]int, api.Errno) {
	if !isCounted(n) {
		return nil, api.ErrArg
	}
	before := 0
	for order := range clearOrders(nil, n) {
		if before == k {
			return slices.Clone(order), api.OK
		}
		before++
	}
	return nil, api.ErrArg
}

// Next returns the smallest clear order of as many columns that is greater than the order, which may be not clear.
func Next(order []int) ([]int, api.Errno) {
	if !isOrder(order) || !isCounted(len(order)) {
		return nil, api.ErrArg
	}
	for greater := range clearOrders(nil, len(order)) {
		if slices.Compare(greater, order) > 0 {
			return slices.Clone(greater), api.OK
		}
	}
	return nil, api.ErrNone
}

// Complete returns the smallest clear order of n columns that begins with start.
func Complete(start []int, n int) ([]int, api.Errno) {
	if !isCounted(n) || !areRows(start, n) {
		return nil, api.ErrArg
	}
	for order := range clearOrders(start, n) {
		return slices.Clone(order), api.OK
	}
	return nil, api.ErrNone
}
