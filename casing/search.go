package casing

import (
	"iter"

	"remould/api"
)

// permutations visits all lists of the sheets 0 to d - 1 in lexicographic order. The list is the same memory each time.
func permutations(d int) iter.Seq[[]int] {
	return func(yield func([]int) bool) {
		list := make([]int, d)
		var used [api.MaxSheets]bool
		var place func(at int) bool
		place = func(at int) bool {
			if at == d {
				return yield(list)
			}
			for sheet := range d {
				if used[sheet] {
					continue
				}
				used[sheet] = true
				list[at] = sheet
				goesOn := place(at + 1)
				used[sheet] = false
				if !goesOn {
					return false
				}
			}
			return true
		}
		place(0)
	}
}

// windings visits all standard tables with d sheets that keep the presentation, in lexicographic order.
func windings(group api.Group, d int) iter.Seq[winding] {
	return func(yield func(winding) bool) {
		w := winding{letters: group.Letters, sheets: d}
		var fill func(generator int) bool
		fill = func(generator int) bool {
			if generator == group.Letters {
				return !w.isStandard() || !w.keeps(group.Rules) || yield(w)
			}
			for column := range permutations(d) {
				w.lay(generator, column)
				if !fill(generator + 1) {
					return false
				}
			}
			return true
		}
		fill(0)
	}
}
