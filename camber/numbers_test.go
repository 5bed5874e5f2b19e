package camber_test

import (
	"math/big"
	"testing"

	"remould/api"
	"remould/camber"
)

// boundOf returns 9 - 4 / (x x).
func boundOf(x int) *big.Rat {
	return new(big.Rat).Sub(big.NewRat(9, 1), new(big.Rat).SetFrac(product(4), product(x, x)))
}

// checkNumber compares Proper and Bound of a number with what they have to be.
func checkNumber(t *testing.T, x int, first map[int][3]int) {
	t.Helper()
	triple, e := camber.Proper(x)
	bound, f := camber.Bound(x)
	want, found := first[x]
	if !found {
		if triple != [3]int{} || bound != (api.Frac{}) || e != api.ErrNone || f != api.ErrNone {
			t.Errorf("%d: Proper = %v, %d, Bound = %v, %d", x, triple, e, bound, f)
		}
		return
	}
	if triple != want || e != api.OK {
		t.Errorf("Proper(%d) = %v, %d, want %v", x, triple, e, want)
	}
	if exact := boundOf(x); f != api.OK || exact.Num().Cmp(product(bound.Num)) != 0 || exact.Denom().Cmp(product(bound.Den)) != 0 {
		t.Errorf("Bound(%d) = %v, %d, want %v", x, bound, f, exact)
	}
}

// P9.3: Proper and Bound, with all small numbers, and those near greater proper ones.
func TestProperAndBound(t *testing.T) {
	first := map[int][3]int{}
	for _, l := range allTriples() {
		if _, found := first[l[2]]; !found {
			first[l[2]] = l
		}
	}
	for x := 1; x <= 3000; x++ {
		checkNumber(t, x, first)
	}
	for z, l := range first {
		for _, x := range []int{z - 1, z, z + 1, l[0], l[1]} {
			if x > 0 {
				checkNumber(t, x, first)
			}
		}
	}
	checkNumber(t, api.MaxTriple, first)
	checkNumber(t, api.MaxTriple-1, first)
}

// P9.3: Bound, with examples.
func TestBoundExamples(t *testing.T) {
	for x, want := range map[int]api.Frac{
		1: {Num: 5, Den: 1}, 2: {Num: 8, Den: 1}, 5: {Num: 221, Den: 25}, 13: {Num: 1517, Den: 169}, 34: {Num: 2600, Den: 289},
	} {
		if bound, e := camber.Bound(x); bound != want || e != api.OK {
			t.Errorf("Bound(%d) = %v, %d", x, bound, e)
		}
	}
}

// P9.3: numbers that are out of range.
func TestNumberErrors(t *testing.T) {
	for _, x := range noNumbers(api.MaxTriple) {
		if l, e := camber.Proper(x); l != [3]int{} || e != api.ErrArg {
			t.Errorf("Proper(%d) = %v, %d", x, l, e)
		}
		if bound, e := camber.Bound(x); bound != (api.Frac{}) || e != api.ErrArg {
			t.Errorf("Bound(%d) = %v, %d", x, bound, e)
		}
	}
	// 1134903170 is the next number of triples with 1.
	if l, e := camber.Proper(1134903170); l != [3]int{} || e != api.ErrArg {
		t.Errorf("Proper(1134903170) = %v, %d", l, e)
	}
}

// P9.3: Root, with examples.
func TestRootExamples(t *testing.T) {
	for l, want := range map[[3]int]int{
		{1, 1, 2}: 1, {1, 2, 5}: 2, {1, 5, 13}: 5, {2, 5, 29}: 12, {1, 13, 34}: 13, {5, 13, 194}: 75, {2, 29, 169}: 70,
	} {
		if root, e := camber.Root(l); root != want || e != api.OK {
			t.Errorf("Root(%v) = %d, %d", l, root, e)
		}
	}
}

// divides reports whether z divides a product plus a number.
func divides(z, u, x, plus int) bool {
	value := sum(product(u, x), product(plus))
	return new(big.Int).Mod(value, product(z)).Sign() == 0
}

// P9.3: Root, with all triples. The numbers below the roots of greater triples are not tried one by one: as z and x have no common divisor, only one remainder and its opposite fit.
func TestRootAgainstTerms(t *testing.T) {
	for _, l := range allTriples()[1:] {
		x, y, z := l[0], l[1], l[2]
		root, e := camber.Root(l)
		if e != api.OK || root < 0 || 2*root > z || !divides(z, root, x, -y) && !divides(z, root, x, y) || !divides(z, root, root, 1) {
			t.Errorf("Root(%v) = %d, %d", l, root, e)
		}
		if z < 20000000 && root != rootOf(l) {
			t.Errorf("Root(%v) = %d, want %d", l, root, rootOf(l))
		}
		if gcd(x, z) != 1 {
			t.Errorf("%v: both %d and %d are divisible by %d", l, x, z, gcd(x, z))
		}
	}
}

// P9.3, P9.5: the triple 1 1 1 has neither a root nor a form.
func TestNoRoot(t *testing.T) {
	if root, e := camber.Root([3]int{1, 1, 1}); root != 0 || e != api.ErrNone {
		t.Errorf("Root = %d, %d", root, e)
	}
	if form, e := camber.Form([3]int{1, 1, 1}); form != [3]int{} || e != api.ErrNone {
		t.Errorf("Form = %v, %d", form, e)
	}
}
