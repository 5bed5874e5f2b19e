package ply_test

import (
	"fmt"
	"math/rand/v2"
	"slices"
	"testing"

	"remould/api"
	"remould/ply"
)

// P8.5: what is said of closures and insides.
func TestClosureProperties(t *testing.T) {
	for x := range allPairs() {
		all := whole(len(x.cells))
		closure, _ := ply.Closure(x.cells, x.set)
		if again, e := ply.Closure(x.cells, closure); again != closure || e != api.OK {
			t.Errorf("%v: the closure of %d is %d, and of that one %d", x.cells, x.set, closure, again)
		}
		inside, _ := ply.Inside(x.cells, x.set)
		beside, _ := ply.Closure(x.cells, all-x.set)
		if inside != all-beside {
			t.Errorf("%v: the inside of %d is %d, the closure of its complement %d", x.cells, x.set, inside, beside)
		}
	}
}

// P8.5: Fourteen has at most 14 sets, all of them different.
func TestFourteenIsSmall(t *testing.T) {
	for x := range allPairs() {
		sets, e := ply.Fourteen(x.cells, x.set)
		if e != api.OK || len(sets) < 2 || len(sets) > 14 || sets[0] != x.set {
			t.Errorf("Fourteen(%v, %d) = %v, %d", x.cells, x.set, sets, e)
		}
		slices.Sort(sets)
		if len(slices.Compact(sets)) != len(sets) {
			t.Errorf("Fourteen(%v, %d): a set is found twice", x.cells, x.set)
		}
	}
}

// P8.5: the known numbers of spaces.
func TestKnownCounts(t *testing.T) {
	all, plain := []int{1, 4, 29, 355}, []int{1, 3, 19, 219}
	for i := range api.MaxSpaces {
		if gotAll, gotPlain, e := ply.Count(i + 1); gotAll != all[i] || gotPlain != plain[i] || e != api.OK {
			t.Errorf("Count(%d) = %d, %d, %d", i+1, gotAll, gotPlain, e)
		}
	}
}

// codeOf returns the set of some points.
func codeOf(points []int) int {
	set := 0
	for _, p := range points {
		set |= 1 << p
	}
	return set
}

// P8.5: Chains of a plain space and of its core are equal, and a point below all others makes the core one point.
func TestCoreProperties(t *testing.T) {
	for cells := range allSpaces() {
		core, e := ply.Core(cells)
		part, f := ply.Part(cells, codeOf(core))
		if e != api.OK || f != api.OK || len(core) == 0 || !isPlain(part) {
			t.Fatalf("%v: Core = %v, %d, Part = %v, %d", cells, core, e, part, f)
		}
		if again, _ := ply.Core(part); len(again) != len(part) {
			t.Errorf("%v: the core of the core %v has the points %v", cells, part, again)
		}
		if !isPlain(cells) {
			continue
		}
		chains, _ := ply.Chains(cells)
		if ofCore, e := ply.Chains(part); ofCore != chains || e != api.OK {
			t.Errorf("%v: Chains = %d, of the core %d, %d", cells, chains, ofCore, e)
		}
		below := whole(len(cells))
		for _, cell := range cells {
			below &= cell
		}
		if below != 0 && len(core) != 1 {
			t.Errorf("%v: a point is below all others, but the core is %v", cells, core)
		}
	}
}

// answers makes every call of the layer, and writes down what it returns; the lists that are results are overwritten, so that they would spoil what they shared.
func answers(n, set int, cells, other []int) string {
	var lists [][]int
	text := ""
	for _, call := range []func() ([]int, api.Errno){
		func() ([]int, api.Errno) { return ply.Opens(cells) },
		func() ([]int, api.Errno) { return ply.From(n, cells) },
		func() ([]int, api.Errno) { return ply.Fourteen(cells, set) },
		func() ([]int, api.Errno) { return ply.Pieces(cells, set) },
		func() ([]int, api.Errno) { return ply.Core(cells) },
		func() ([]int, api.Errno) { return ply.Part(cells, set) },
		func() ([]int, api.Errno) { return ply.Same(cells, other) },
		func() ([]int, api.Errno) { return ply.Same(cells, cells) },
		func() ([]int, api.Errno) { return ply.Turned(cells) },
	} {
		list, e := call()
		if e != api.OK && len(list) != 0 {
			text += "a result together with an error "
		}
		text += fmt.Sprint(list, e)
		lists = append(lists, list)
	}
	for _, call := range []func([]int, int) (int, api.Errno){ply.Closure, ply.Inside, ply.Edge} {
		text += fmt.Sprint(call(cells, set))
	}
	text += fmt.Sprint(ply.IsSpace(cells))
	text += fmt.Sprint(ply.Smooth(cells, other))
	text += fmt.Sprint(ply.Count(n))
	text += fmt.Sprint(ply.Chains(cells))
	for _, list := range lists {
		for i := range list[:cap(list)] {
			list[:cap(list)][i] = -7
		}
	}
	return text
}

// P1, P2, rule 5: all calls return for any arguments, the same for the same ones, and change none.
func TestAnyArguments(t *testing.T) {
	random := rand.New(rand.NewPCG(8, 6))
	lists := append(noCells(), someSpaces()[:40]...)
	for cells := range smallSpaces() {
		lists = append(lists, cells)
	}
	for i, cells := range lists {
		other := lists[random.IntN(len(lists))]
		keptCells, keptOther := slices.Clone(cells), slices.Clone(other)
		for _, n := range []int{-1, 0, len(cells), 7} {
			set := random.IntN(66) - 1
			first := answers(n, set, cells, other)
			second := answers(n, set, cells, other)
			if first != second {
				t.Errorf("%d: %v, %v: %s, then %s", i, cells, other, first, second)
			}
			if !slices.Equal(cells, keptCells) || !slices.Equal(other, keptOther) {
				t.Fatalf("%v, %v were changed", keptCells, keptOther)
			}
		}
	}
}
