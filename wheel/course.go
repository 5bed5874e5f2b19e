package wheel

import "remould/api"

// course is a course of at most MaxCourse remainders. Behind its length they are 0, so that courses of one length can be compared.
type course struct {
	length     int
	remainders [api.MaxCourse]int
}

// newCourse reports whether a list is a course for a modulus.
func newCourse(modulus int, list []int) (course, bool) {
	if len(list) > api.MaxCourse {
		return course{}, false
	}
	for _, remainder := range list {
		if remainder < 0 || remainder >= modulus {
			return course{}, false
		}
	}
	c := course{length: len(list)}
	copy(c.remainders[:], list)
	return c, true
}

// newWheelWith reports whether it is given a rule, and a course for it.
func newWheelWith(rule api.Rule, list []int) (wheel, course, bool) {
	w, ok := newWheel(rule)
	if !ok {
		return wheel{}, course{}, false
	}
	c, ok := newCourse(w.modulus, list)
	return w, c, ok
}

// courseOf returns the course of a number that is small enough for it.
func (w wheel) courseOf(x, length int) course {
	c := course{length: length}
	position := 0
	for number := range w.orbit(x, length) {
		c.remainders[position] = w.remainder(number)
		position++
	}
	return c
}

// turned returns the course with its first remainders moved to its end.
func (c course) turned(by int) course {
	t := course{length: c.length}
	copied := copy(t.remainders[:], c.remainders[by:c.length])
	copy(t.remainders[copied:], c.remainders[:by])
	return t
}

// repeats reports whether the course is a shorter one several times over.
func (c course) repeats() bool {
	for by := 1; by < c.length; by++ {
		if c.turned(by).remainders == c.remainders {
			return true
		}
	}
	return false
}

// start returns the smallest number from 0 on with a course.
func (w wheel) start(c course) int {
	// The numbers with the remainders so far are start + n distance, and they are sent to end + n step. As step and the modulus have no common divisor, one of the next few ends has the next remainder.
	start, distance := 0, 1
	end, step := 0, 1
	for _, remainder := range c.remainders[:c.length] {
		for w.remainder(end) != remainder {
			start += distance
			end += step
		}
		end = w.send(end)
		distance *= w.modulus
		step *= w.times[remainder]
	}
	return start
}

// Start returns the smallest number from 0 on with the course.
func Start(rule api.Rule, course []int) (int, api.Errno) {
	w, c, ok := newWheelWith(rule, course)
	if !ok {
		return 0, api.ErrArg
	}
	return w.start(c), api.OK
}

// form says that x is sent to (a x + b) / d.
type form struct{ a, b, d int }

// form returns how the numbers with a course are sent. With at most MaxCourse remainders, a is less than 2^52, and the absolute value of b is less than 2^54.
func (w wheel) form(c course) form {
	f := form{1, 0, 1}
	for _, remainder := range c.remainders[:c.length] {
		times, plus := w.times[remainder], w.plus[remainder]
		f = form{times * f.a, times*f.b + plus*f.d, w.modulus * f.d}
	}
	return f
}

// Form returns A, B and D, so that the numbers x with the course are sent to (A x + B) / D.
func Form(rule api.Rule, course []int) (int, int, int, api.Errno) {
	w, c, ok := newWheelWith(rule, course)
	if !ok {
		return 0, 0, 0, api.ErrArg
	}
	f := w.form(c)
	return f.a, f.b, f.d, api.OK
}

// fixed returns the fraction x for which (a x + b) / d is x. There is exactly one if a is not d.
func (f form) fixed() api.Frac {
	num, den := f.b, f.d-f.a
	if den < 0 {
		num, den = -num, -den
	}
	common := gcd(max(num, -num), den)
	return api.Frac{Num: num / common, Den: den / common}
}

// Fixed returns the fraction that the form of the course sends to itself.
func Fixed(rule api.Rule, course []int) (api.Frac, api.Errno) {
	w, c, ok := newWheelWith(rule, course)
	if !ok {
		return api.Frac{}, api.ErrArg
	}
	f := w.form(c)
	if f.a == f.d {
		return api.Frac{}, api.ErrNone
	}
	return f.fixed(), api.OK
}
