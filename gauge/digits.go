package gauge

import (
	"iter"
	"strings"

	"remould/api"
)

// digits has the digits of a text, as characters, without the point, and with zeros wherever the text has none: first that of the exponent MaxDigits - 1, last that of -MaxDigits.
type digits [2 * api.MaxDigits]byte

// newDigits places at most MaxDigits digits on each side of the point.
func newDigits(before, after string) digits {
	var d digits
	copy(d[:], strings.Repeat("0", len(d)))
	copy(d[api.MaxDigits-len(before):], before)
	copy(d[api.MaxDigits:], after)
	return d
}

func place(exponent int) int { return api.MaxDigits - 1 - exponent }

// value may be no number. The greatest coordinates, with digits 3 everywhere, are about 10^9.
func (d digits) value() api.Gold {
	sum := api.Gold{}
	for exponent, power := range powers(api.MaxDigits-1, -api.MaxDigits) {
		digit := api.Gold{A: int(d[place(exponent)] - '0')}
		sum = plus(sum, times(digit, power))
	}
	return sum
}

// text leaves out zeros at both ends, but for the one digit that must stand before the point.
func (d digits) text() string {
	before := strings.TrimLeft(string(d[:place(0)]), "0") + string(d[place(0)])
	after := strings.TrimRight(string(d[place(-1):]), "0")
	if after == "" {
		return before
	}
	return before + "." + after
}

// parts visits, from the greatest one on, the powers of w at which the plain text of x has a digit 1, each after its exponent; there are none if x is less than 0. The greatest power that a number contains leaves less than the power before that one, so that no two of them are adjacent.
func parts(x api.Gold) iter.Seq2[int, api.Gold] {
	return func(yield func(int, api.Gold) bool) {
		left := x
		for exponent, power := range powers(api.MaxDigits-1, -api.MaxDigits) {
			less := minus(left, power)
			if sign(less) < 0 {
				continue
			}
			if !yield(exponent, power) {
				return
			}
			left = less
		}
	}
}

// plainText returns the plain text of a number that is not less than 0.
func plainText(x api.Gold) string {
	d := newDigits("", "")
	for exponent := range parts(x) {
		d[place(exponent)] = '1'
	}
	return d.text()
}
