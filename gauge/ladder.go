package gauge

import (
	"iter"

	"remould/api"
)

// position returns the position of a value of the ladder. Before 1 stands one value, before w two, and before each later power as many as before the last two powers together, just as it is the sum of both: hence this sum of coordinates. Other values are sums of powers, and their positions are the sums of theirs.
func position(x api.Gold) int { return x.A + 2*x.B }

// rung returns the value at the position k, which is not less than 0 and at most MaxRung.
func rung(k int) api.Gold {
	value := api.Gold{}
	for _, power := range powers(api.MaxDigits-1, 0) {
		if before := position(power); before <= k {
			value = plus(value, power)
			k -= before
		}
	}
	return value
}

// rungs visits the values at the positions from first to last.
func rungs(first, last int) iter.Seq[api.Gold] {
	return func(yield func(api.Gold) bool) {
		for k := first; k <= last && yield(rung(k)); k++ {
		}
	}
}

// Rung returns the value at the position k of the ladder.
func Rung(k int) (api.Gold, api.Errno) {
	if k < 0 || k > api.MaxRung {
		return api.Gold{}, api.ErrArg
	}
	return rung(k), api.OK
}

// Below returns the number of values of the ladder that are less than x.
func Below(x api.Gold) (int, api.Errno) {
	if !isNumber(x) || sign(minus(x, api.Gold{A: api.MaxGold})) > 0 {
		return 0, api.ErrArg
	}
	below := 0
	for exponent, power := range parts(x) {
		// With digits after the point, x is greater than the value of those before it.
		if exponent < 0 {
			return below + 1, api.OK
		}
		below += position(power)
	}
	return below, api.OK
}

// Gaps returns the letters of the first n differences of adjacent values of the ladder: L for 1, S for w - 1.
func Gaps(n int) (string, api.Errno) {
	if n < 0 || n > api.MaxGaps {
		return "", api.ErrArg
	}
	var letters []byte
	before := api.Gold{}
	for value := range rungs(1, n) {
		letter := byte('S')
		if minus(value, before) == (api.Gold{A: 1}) {
			letter = 'L'
		}
		letters = append(letters, letter)
		before = value
	}
	return string(letters), api.OK
}
