package wheel

import (
	"iter"
	"slices"

	"remould/api"
)

// wheel is a rule with its lists copied into arrays.
type wheel struct {
	modulus     int
	times, plus [api.MaxModulus]int
}

// newWheel reports whether it is given a rule, and numbers none of which is large.
func newWheel(rule api.Rule, numbers ...int) (wheel, bool) {
	m := rule.Modulus
	if m < 2 || m > api.MaxModulus || len(rule.Times) != m || len(rule.Plus) != m || slices.ContainsFunc(numbers, isLarge) {
		return wheel{}, false
	}
	w := wheel{modulus: m}
	copy(w.times[:], rule.Times)
	copy(w.plus[:], rule.Plus)
	for remainder := range m {
		if !w.isRuleFor(remainder) {
			return wheel{}, false
		}
	}
	return w, true
}

func (w wheel) isRuleFor(remainder int) bool {
	times, plus := w.times[remainder], w.plus[remainder]
	return 1 <= times && times <= api.MaxTimes && gcd(times, w.modulus) == 1 &&
		-api.MaxPlus <= plus && plus <= api.MaxPlus && (times*remainder+plus)%w.modulus == 0
}

func isLarge(number int) bool { return number < -api.MaxNumber || number > api.MaxNumber }

// remainder is not negative, unlike the one that % gives for numbers less than 0.
func (w wheel) remainder(x int) int { return (x%w.modulus + w.modulus) % w.modulus }

func (w wheel) send(x int) int {
	remainder := w.remainder(x)
	return (w.times[remainder]*x + w.plus[remainder]) / w.modulus
}

// orbit visits x and the numbers that follow it, altogether count of them, also if they come again. Whoever goes through many of them must stop at one that is large, before they leave the range of int.
func (w wheel) orbit(x, count int) iter.Seq[int] {
	return func(yield func(int) bool) {
		number := x
		for range count {
			if !yield(number) {
				return
			}
			number = w.send(number)
		}
	}
}

// gcd returns the greatest common divisor of two numbers that are not less than 0.
func gcd(a, b int) int {
	for b != 0 {
		a, b = b, a%b
	}
	return a
}

func power(base, exponent int) int {
	product := 1
	for range exponent {
		product *= base
	}
	return product
}
