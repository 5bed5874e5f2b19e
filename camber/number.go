package camber

import "remould/api"

// Proper returns the first triple whose greatest number is x.
func Proper(x int) ([3]int, api.Errno) {
	// The triples whose greatest number is x are the last ones of All.
	all, e := All(x)
	if e != api.OK {
		return [3]int{}, e
	}
	for _, t := range all {
		if t[2] == x {
			return t, api.OK
		}
	}
	return [3]int{}, api.ErrNone
}

// Bound returns 9 - 4 / (x x) for a proper number x. Every proper number is the greatest one of some triple.
func Bound(x int) (api.Frac, api.Errno) {
	_, e := Proper(x)
	if e != api.OK {
		return api.Frac{}, e
	}
	// In lowest terms, what is taken from 9 has the denominator x x, or a fourth of it if x is even.
	num, den := 4, x*x
	if x%2 == 0 {
		num, den = 1, den/4
	}
	return api.Frac{Num: 9*den - num, Den: den}, api.OK
}

// inverse returns the number below m whose product with x leaves the remainder 1 by m, or the one whose product leaves m - 1. There must be such numbers.
func inverse(x, m int) int {
	// The factors times x leave the rests by m, every other one of them with the other sign.
	rest, next := m, x
	factor, nextFactor := 0, 1
	for next != 0 {
		quotient := rest / next
		rest, next = next, rest%next
		factor, nextFactor = nextFactor, factor+quotient*nextFactor
	}
	return factor
}

// root is for triples with z at least 2.
func (t triple) root() int {
	x, y, z := t[0], t[1], t[2]
	// It is one of both remainders, whichever inverse it comes from, and not 0, as z has no common divisor with y.
	remainder := inverse(x, z) * y % z
	return min(remainder, z-remainder)
}

// Root returns the smaller one of the numbers u below z for which z divides u x - y, or u x + y.
func Root(l [3]int) (int, api.Errno) {
	t, ok := newTriple(l)
	if !ok {
		return 0, api.ErrArg
	}
	if t[2] == 1 {
		return 0, api.ErrNone
	}
	return t.root(), api.OK
}

// Form returns the numbers z, 3 z - 2 u and v - 3 u, in which u is the root and v is (u u + 1) / z.
func Form(l [3]int) ([3]int, api.Errno) {
	u, e := Root(l)
	if e != api.OK {
		return [3]int{}, e
	}
	z := l[2]
	v := (u*u + 1) / z
	return [3]int{z, 3*z - 2*u, v - 3*u}, api.OK
}
