package camber

import "remould/api"

// maxTimes is the greatest k for which other triples are looked for.
const maxTimes = 5

// least returns the number x, at most y, with x x + y y + z z = k x y z, and whether there is one; y is at most z.
func least(k, y, z int) (int, bool) {
	x := 1
	// The left side grows with x up to y, so that there is at most one x.
	for x < y && x*(k*y*z-x) < y*y+z*z {
		x++
	}
	return x, x*(k*y*z-x) == y*y+z*z
}

// Other returns all lists x <= y <= z of numbers from 1 on with z at most most and x x + y y + z z = k x y z, in the order of All.
func Other(k, most int) ([][3]int, api.Errno) {
	if k < 1 || k > maxTimes || most < 1 || most > api.MaxOther {
		return nil, api.ErrArg
	}
	var list [][3]int
	for z := 1; z <= most; z++ {
		for y := 1; y <= z; y++ {
			x, found := least(k, y, z)
			if found {
				list = append(list, [3]int{x, y, z})
			}
		}
	}
	return list, api.OK
}
