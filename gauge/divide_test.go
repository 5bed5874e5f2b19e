package gauge_test

import (
	"math/big"
	"testing"

	"remould/api"
	"remould/gauge"
)

// nearestTo returns the whole number that is nearest to n / d, the smaller one of two, by a look at those around.
func nearestTo(n, d int) int {
	fraction := big.NewRat(int64(n), int64(d))
	distance := func(m int) *big.Rat {
		difference := new(big.Rat).Sub(fraction, big.NewRat(int64(m), 1))
		return difference.Abs(difference)
	}
	best := n/d - 2
	for m := n/d - 1; m <= n/d+2; m++ {
		if distance(m).Cmp(distance(best)) < 0 {
			best = m
		}
	}
	return best
}

// divided returns q, and whether q is a number; and r, and whether both are numbers.
func divided(x, y api.Gold) (q api.Gold, qIn bool, r api.Gold, in bool) {
	mate := api.Gold{A: y.A + y.B, B: -y.B}
	dividend, divisor := product(x, mate), norm(y)
	q = api.Gold{A: nearestTo(dividend.A, divisor), B: nearestTo(dividend.B, divisor)}
	if !isIn(q) {
		return q, false, r, false
	}
	r = sum(x, product(q, api.Gold{A: -y.A, B: -y.B}))
	return q, true, r, isIn(r)
}

// P4.4: Divide.
func TestDivideAgainstFractions(t *testing.T) {
	outcomes := map[[2]bool]int{}
	numbers := someNumbers()
	for i, x := range numbers {
		for at := i % 13; at < len(numbers); at += 13 {
			y := numbers[at]
			if y == (api.Gold{}) {
				continue
			}
			q, qIn, r, in := divided(x, y)
			outcomes[[2]bool{qIn, in}]++
			gotQ, gotR, e := gauge.Divide(x, y)
			if in && (gotQ != q || gotR != r || e != api.OK) {
				t.Fatalf("Divide(%v, %v) = %v, %v, %d, want %v, %v", x, y, gotQ, gotR, e, q, r)
			}
			if !in && (gotQ != api.Gold{} || gotR != api.Gold{} || e != api.ErrFull) {
				t.Fatalf("Divide(%v, %v) = %v, %v, %d, want ErrFull", x, y, gotQ, gotR, e)
			}
		}
	}
	if outcomes[[2]bool{true, true}] < 1000 || outcomes[[2]bool{false, false}] < 1000 {
		t.Errorf("q and r are numbers or not: %v", outcomes)
	}
}

// P4.4 and P3: x = q y + r, and the norm of r is less than that of y.
func TestDivideLeavesLess(t *testing.T) {
	numbers := someNumbers()
	for i, x := range numbers {
		for at := i % 11; at < len(numbers); at += 11 {
			y := numbers[at]
			q, r, e := gauge.Divide(x, y)
			if e != api.OK {
				continue
			}
			if sum(product(q, y), r) != x {
				t.Fatalf("Divide(%v, %v) = %v, %v, which gives another number", x, y, q, r)
			}
			if left, divisor := norm(r), norm(y); max(left, -left) >= max(divisor, -divisor) {
				t.Fatalf("Divide(%v, %v) = %v, %v with the norms %d, %d", x, y, q, r, divisor, left)
			}
		}
	}
}

func TestDivideOfExamples(t *testing.T) {
	cases := []struct {
		x, y, q, r api.Gold
		e          api.Errno
	}{
		{whole(5), whole(2), whole(2), whole(1), api.OK}, {whole(-5), whole(2), whole(-3), whole(1), api.OK},
		{whole(5), whole(-2), whole(-3), whole(-1), api.OK}, {whole(-5), whole(-2), whole(2), whole(-1), api.OK},
		{whole(1), whole(2), whole(0), whole(1), api.OK}, {whole(-1), whole(2), whole(-1), whole(1), api.OK},
		{whole(7), whole(3), whole(2), whole(1), api.OK}, {whole(8), whole(3), whole(3), whole(-1), api.OK}, {whole(-8), whole(3), whole(-3), whole(1), api.OK},
		{whole(0), whole(3), whole(0), whole(0), api.OK}, {whole(6), whole(3), whole(2), whole(0), api.OK},
		{api.Gold{B: 5}, whole(2), api.Gold{B: 2}, api.Gold{B: 1}, api.OK}, {api.Gold{A: 5, B: -5}, whole(2), api.Gold{A: 2, B: -3}, api.Gold{A: 1, B: 1}, api.OK},
		{whole(1), api.Gold{B: 1}, api.Gold{A: -1, B: 1}, whole(0), api.OK},             // the norm of w is -1
		{api.Gold{A: 3, B: 1}, api.Gold{A: -1, B: 2}, api.Gold{B: 1}, whole(1), api.OK}, // -1/5 + 7/5 w
		// The greatest coordinates.
		{whole(1000000), whole(1), whole(1000000), whole(0), api.OK}, {whole(1000000), whole(-1), whole(-1000000), whole(0), api.OK},
		{whole(1000000), api.Gold{A: 1, B: 1}, api.Gold{}, api.Gold{}, api.ErrFull}, // 2000000 - 1000000 w
		{api.Gold{A: 1000000, B: 1000000}, api.Gold{A: -832040, B: 514229}, api.Gold{}, api.Gold{}, api.ErrFull},
		// -1/2 + 1/2 w is rounded to -1: the remainder has 1500000 w.
		{api.Gold{B: 500000}, api.Gold{A: 1000000, B: 1000000}, api.Gold{}, api.Gold{}, api.ErrFull},
		{api.Gold{B: 333333}, api.Gold{A: 666666, B: 666666}, whole(-1), api.Gold{A: 666666, B: 999999}, api.OK},
	}
	for _, c := range cases {
		if q, r, e := gauge.Divide(c.x, c.y); q != c.q || r != c.r || e != c.e {
			t.Errorf("Divide(%v, %v) = %v, %v, %d, want %v, %v, %d", c.x, c.y, q, r, e, c.q, c.r, c.e)
		}
	}
	for _, x := range someNumbers() {
		if q, r, e := gauge.Divide(x, api.Gold{}); q != (api.Gold{}) || r != (api.Gold{}) || e != api.ErrArg {
			t.Errorf("Divide(%v, 0) = %v, %v, %d", x, q, r, e)
		}
	}
}
