package gauge

import (
	"cmp"
	"iter"

	"remould/api"
)

// The coordinates of what is computed here may be greater than those of a number, but lie far within the range of int.

func isCoordinate(n int) bool { return -api.MaxGold <= n && n <= api.MaxGold }

func isNumber(x api.Gold) bool { return isCoordinate(x.A) && isCoordinate(x.B) }

func plus(x, y api.Gold) api.Gold { return api.Gold{A: x.A + y.A, B: x.B + y.B} }

func minus(x, y api.Gold) api.Gold { return api.Gold{A: x.A - y.A, B: x.B - y.B} }

// times relies on w w = w + 1.
func times(x, y api.Gold) api.Gold {
	return api.Gold{A: x.A*y.A + x.B*y.B, B: x.A*y.B + x.B*y.A + x.B*y.B}
}

func mateOf(x api.Gold) api.Gold { return api.Gold{A: x.A + x.B, B: -x.B} }

func normOf(x api.Gold) int { return x.A*x.A + x.A*x.B - x.B*x.B }

// sign compares x with 0. Twice x is 2 A + B and B square roots of 5, and squares with the signs of what is squared keep its order.
func sign(x api.Gold) int { return cmp.Compare(signedSquare(2*x.A+x.B), -5*signedSquare(x.B)) }

func signedSquare(n int) int {
	if n < 0 {
		return -n * n
	}
	return n * n
}

func timesW(x api.Gold) api.Gold { return api.Gold{A: x.B, B: x.A + x.B} }

// overW undoes timesW.
func overW(x api.Gold) api.Gold { return api.Gold{A: x.B - x.A, B: x.A} }

func powerOf(k int) api.Gold {
	power := api.Gold{A: 1}
	for range k {
		power = timesW(power)
	}
	for range -k {
		power = overW(power)
	}
	return power
}

// powers visits the powers of w from the exponent first down to the exponent last, each after its exponent.
func powers(first, last int) iter.Seq2[int, api.Gold] {
	return func(yield func(int, api.Gold) bool) {
		power := powerOf(first)
		for k := first; k >= last && yield(k, power); k-- {
			power = overW(power)
		}
	}
}
