package wheel

import (
	"slices"

	"remould/api"
)

// falls returns how many courses of length k have an A less than D.
func (w wheel) falls(k int) int {
	d := power(w.modulus, k)
	// There are many courses, but few different products A of their beginnings.
	known := map[[2]int]int{}
	var count func(left, a int) int
	count = func(left, a int) int {
		if left == 0 {
			if a < d {
				return 1
			}
			return 0
		}
		key := [2]int{left, a}
		if number, ok := known[key]; ok {
			return number
		}
		number := 0
		for _, times := range w.times[:w.modulus] {
			number += count(left-1, a*times)
		}
		known[key] = number
		return number
	}
	return count(k, 1)
}

// Falls returns how many courses of length k have an A less than D.
func Falls(rule api.Rule, k int) (int, api.Errno) {
	w, ok := newWheel(rule)
	if !ok || k < 0 || k > api.MaxCourse {
		return 0, api.ErrArg
	}
	return w.falls(k), api.OK
}

// back returns the numbers that are sent to y.
func (w wheel) back(y int) []int {
	var numbers []int
	for remainder := range w.modulus {
		times := w.times[remainder]
		product := w.modulus*y - w.plus[remainder]
		// A number for which this comes out has the remainder, because times has no common divisor with the modulus.
		if product%times == 0 {
			numbers = append(numbers, product/times)
		}
	}
	return numbers
}

// Back returns all numbers that are sent to y, in ascending order.
func Back(rule api.Rule, y int) ([]int, api.Errno) {
	w, ok := newWheel(rule, y)
	if !ok {
		return nil, api.ErrArg
	}
	numbers := w.back(y)
	if slices.ContainsFunc(numbers, isLarge) {
		return nil, api.ErrFull
	}
	slices.Sort(numbers)
	return numbers, api.OK
}

// backAll returns the numbers that are sent to one of some numbers. They are different, because a number is sent to one number only.
func (w wheel) backAll(numbers []int) ([]int, api.Errno) {
	var all []int
	for _, y := range numbers {
		all = append(all, w.back(y)...)
		if len(all) > api.MaxSets {
			return nil, api.ErrFull
		}
	}
	if slices.ContainsFunc(all, isLarge) {
		return nil, api.ErrFull
	}
	return all, api.OK
}

// Sets returns, for each number from 0 to depth, how many numbers are sent to y by so many steps.
func Sets(rule api.Rule, y, depth int) ([]int, api.Errno) {
	w, ok := newWheel(rule, y)
	if !ok || depth < 0 || depth > api.MaxDepth {
		return nil, api.ErrArg
	}
	numbers := []int{y}
	counts := []int{1}
	for range depth {
		var e api.Errno
		numbers, e = w.backAll(numbers)
		if e != api.OK {
			return nil, e
		}
		counts = append(counts, len(numbers))
	}
	return counts, api.OK
}
