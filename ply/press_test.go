package ply_test

import (
	"slices"
	"testing"

	"remould/api"
	"remould/ply"
)

// P8.3: Core and Chains, with the examples of the chapter.
func TestPressExamples(t *testing.T) {
	for _, x := range []struct {
		cells, core []int
		chains      int
		e           api.Errno
	}{
		{[]int{1}, []int{0}, 1, api.OK},
		{[]int{1, 3}, []int{1}, 1, api.OK},
		{[]int{3, 2}, []int{1}, 1, api.OK},
		{[]int{1, 2}, []int{0, 1}, 2, api.OK},
		{[]int{3, 3}, []int{0}, 0, api.ErrNone},
		{[]int{1, 2, 7, 11}, []int{0, 1, 2, 3}, 0, api.OK},
		{[]int{1, 2, 7, 11, 31}, []int{4}, 1, api.OK},
		{[]int{1, 2, 7, 11, 27}, []int{0, 1, 2, 4}, 0, api.OK},
		{[]int{1, 2, 7, 11, 31, 47}, []int{0, 1, 2, 3, 4, 5}, 2, api.OK},
		{[]int{1, 2, 4, 11, 22, 37}, []int{0, 1, 2, 3, 4, 5}, 0, api.OK},
		{[]int{1, 2, 4, 8, 16, 32}, []int{0, 1, 2, 3, 4, 5}, 6, api.OK},
		{[]int{7, 7, 7, 15, 23, 55}, []int{5}, 0, api.ErrNone},
		{[]int{1, 2, 4, 15, 23}, []int{0, 1, 2, 3, 4}, -1, api.OK},
	} {
		core, e := ply.Core(x.cells)
		chains, f := ply.Chains(x.cells)
		if !slices.Equal(core, x.core) || chains != x.chains || e != api.OK || f != x.e {
			t.Errorf("%v: Core = %v, %d, Chains = %d, %d", x.cells, core, e, chains, f)
		}
	}
}

// P8.3: Core.
func TestCoreAgainstTerms(t *testing.T) {
	for cells := range allSpaces() {
		if core, e := ply.Core(cells); !slices.Equal(core, coreOf(cells)) || e != api.OK {
			t.Errorf("Core(%v) = %v, %d, want %v", cells, core, e, coreOf(cells))
		}
	}
}

// P8.3: Part.
func TestPartAgainstTerms(t *testing.T) {
	for x := range allPairs() {
		part, e := ply.Part(x.cells, x.set)
		if x.set == 0 {
			if len(part) != 0 || e != api.ErrArg {
				t.Errorf("Part(%v, 0) = %v, %d", x.cells, part, e)
			}
		} else if !slices.Equal(part, partOf(x.cells, x.set)) || e != api.OK {
			t.Errorf("Part(%v, %d) = %v, %d", x.cells, x.set, part, e)
		}
	}
}

// P8.3: Chains.
func TestChainsAgainstTerms(t *testing.T) {
	for cells := range allSpaces() {
		chains, e := ply.Chains(cells)
		if !isPlain(cells) {
			if chains != 0 || e != api.ErrNone {
				t.Errorf("Chains(%v) = %d, %d", cells, chains, e)
			}
		} else if chains != chainsOf(cells) || e != api.OK {
			t.Errorf("Chains(%v) = %d, %d", cells, chains, e)
		}
	}
}

// P8.3: cells that are not those of a space; alike ones, too (ErrArg comes before ErrNone).
func TestPressErrors(t *testing.T) {
	for _, cells := range noCells() {
		if core, e := ply.Core(cells); len(core) != 0 || e != api.ErrArg {
			t.Errorf("Core(%v) = %v, %d", cells, core, e)
		}
		if chains, e := ply.Chains(cells); chains != 0 || e != api.ErrArg {
			t.Errorf("Chains(%v) = %d, %d", cells, chains, e)
		}
	}
}
