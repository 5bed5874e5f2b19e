package wheel

import (
	"maps"
	"slices"

	"remould/api"
)

// fromSmallest returns the numbers of a cycle as it is written.
func fromSmallest(cycle []int) []int {
	at := slices.Index(cycle, slices.Min(cycle))
	return slices.Concat(cycle[at:], cycle[:at])
}

// cycle returns the cycle that x comes to, and the number of steps before it.
func (w wheel) cycle(x, steps int) ([]int, int, api.Errno) {
	numbers, first, e := w.walk(x, steps)
	if e != api.OK {
		return nil, 0, e
	}
	if first == never {
		return nil, 0, api.ErrNone
	}
	last := len(numbers) - 1
	return fromSmallest(numbers[first:last]), first, api.OK
}

// Cycle returns the cycle that x comes to, and the number of steps after which a number of it is reached first.
func Cycle(rule api.Rule, x, steps int) ([]int, int, api.Errno) {
	w, ok := newWheel(rule, x)
	if !ok || !areSteps(steps) {
		return nil, 0, api.ErrArg
	}
	return w.cycle(x, steps)
}

// Cycles returns the cycles that the numbers from low to high come to.
func Cycles(rule api.Rule, low, high, steps int) ([][]int, api.Errno) {
	w, ok := newWheel(rule, low, high)
	if !ok || high < low || high-low > api.MaxRange || !areSteps(steps) {
		return nil, api.ErrArg
	}
	found := map[int][]int{}
	for x := low; x <= high; x++ {
		if cycle, _, e := w.cycle(x, steps); e == api.OK {
			found[cycle[0]] = cycle
		}
	}
	var cycles [][]int
	for _, smallest := range slices.Sorted(maps.Keys(found)) {
		cycles = append(cycles, found[smallest])
	}
	return cycles, api.OK
}

// isSmallest reports whether x is the smallest one of count numbers, itself and those that follow it.
func (w wheel) isSmallest(x, count int) bool {
	for number := range w.orbit(x, count) {
		if number < x {
			return false
		}
	}
	return true
}

// Whole returns the smallest numbers of all cycles of k numbers. Each number of a cycle is the fixed one of its course. The other way round, a whole number that a form sends to itself has the course of that form, because all numbers that a form sends to whole numbers have it; and if it came again sooner, the course would repeat.
func Whole(rule api.Rule, k int) ([]int, api.Errno) {
	w, ok := newWheel(rule)
	if !ok || k < 1 || k > api.MaxWhole {
		return nil, api.ErrArg
	}
	var smallest []int
	// The first numbers from 0 on have all courses, each once.
	for number := range power(w.modulus, k) {
		c := w.courseOf(number, k)
		fixed := w.form(c).fixed()
		if fixed.Den == 1 && !c.repeats() && w.isSmallest(fixed.Num, k) {
			smallest = append(smallest, fixed.Num)
		}
	}
	slices.Sort(smallest)
	return smallest, api.OK
}
