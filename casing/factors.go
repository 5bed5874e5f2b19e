package casing

import "remould/api"

// exponents returns the exponents of a word for a and b.
func exponents(word string) [2]int {
	var sums [2]int
	for i := range len(word) {
		switch word[i] {
		case 'a':
			sums[0]++
		case 'A':
			sums[0]--
		case 'b':
			sums[1]++
		case 'B':
			sums[1]--
		}
	}
	return sums
}

// divisor returns the greatest common divisor, at least 0, of two numbers of any sign.
func divisor(x, y int) int {
	for y != 0 {
		x, y = y, x%y
	}
	return max(x, -x)
}

// divisors returns the greatest common divisor of all exponents, and the one of all determinants of two rules.
func divisors(rules []string) (int, int) {
	ofExponents, ofDeterminants := 0, 0
	for i, rule := range rules {
		e := exponents(rule)
		ofExponents = divisor(divisor(ofExponents, e[0]), e[1])
		for _, earlier := range rules[:i] {
			f := exponents(earlier)
			ofDeterminants = divisor(ofDeterminants, e[0]*f[1]-e[1]*f[0])
		}
	}
	return ofExponents, ofDeterminants
}

// Factors returns the factors greater than 1 of the group that arises if all generators commute, and the number of its infinite ones.
func Factors(group api.Group) ([]int, int, api.Errno) {
	if !isGroup(group) {
		return nil, 0, api.ErrArg
	}
	first, product := divisors(group.Rules)
	all := []int{first}
	if group.Letters == 2 {
		// If no rule has an exponent, no determinant does either, and both generators are free.
		second := product / max(first, 1)
		all = append(all, second)
	}
	var factors []int
	infinite := 0
	for _, factor := range all {
		if factor == 0 {
			infinite++
		} else if factor > 1 {
			factors = append(factors, factor)
		}
	}
	return factors, infinite, api.OK
}
