package gauge

import "remould/api"

// Text returns the plain text of a number that is not less than 0.
func Text(x api.Gold) (string, api.Errno) {
	if !isNumber(x) || sign(x) < 0 {
		return "", api.ErrArg
	}
	return plainText(x), api.OK
}

// Value returns the value of a text.
func Value(text string) (api.Gold, api.Errno) {
	d, e := read(text)
	if e != api.OK {
		return api.Gold{}, e
	}
	return numberOrFull(d.value())
}

// Plain returns the plain text with the value of a text.
func Plain(text string) (string, api.Errno) {
	value, e := Value(text)
	if e != api.OK {
		return "", e
	}
	return plainText(value), api.OK
}

// Add returns the plain text of the sum of the values of two texts. The values need not be numbers, if only the sum is one.
func Add(s, t string) (string, api.Errno) {
	one, e := read(s)
	if e != api.OK {
		return "", e
	}
	other, e := read(t)
	if e != api.OK {
		return "", e
	}
	sum, e := numberOrFull(plus(one.value(), other.value()))
	if e != api.OK {
		return "", e
	}
	return plainText(sum), api.OK
}
