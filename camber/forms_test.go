package camber_test

import (
	"math"
	"slices"
	"testing"

	"remould/api"
	"remould/camber"
)

// P9.5: Form, with examples.
func TestFormExamples(t *testing.T) {
	for l, want := range map[[3]int][3]int{
		{1, 1, 2}: {2, 4, -2}, {1, 2, 5}: {5, 11, -5}, {1, 5, 13}: {13, 29, -13}, {2, 5, 29}: {29, 63, -31},
	} {
		if form, e := camber.Form(l); form != want || e != api.OK {
			t.Errorf("Form(%v) = %v, %d", l, form, e)
		}
	}
}

// P9.5: Form, with all triples: from it the root comes back, and what it has to be.
func TestFormAgainstTerms(t *testing.T) {
	for _, l := range allTriples()[1:] {
		z := l[2]
		form, e := camber.Form(l)
		root, _ := camber.Root(l)
		v := form[2] + 3*root
		if e != api.OK || form[0] != z || form[1] != 3*z-2*root || product(v, z).Cmp(sum(product(root, root), product(1))) != 0 {
			t.Errorf("Form(%v) = %v, %d", l, form, e)
		}
		if z < 20000000 {
			u := rootOf(l)
			if want := [3]int{z, 3*z - 2*u, (u*u+1)/z - 3*u}; form != want {
				t.Errorf("Form(%v) = %v, want %v", l, form, want)
			}
		}
	}
}

// othersOf returns all lists for Other, in the order of All.
func othersOf(k, most int) [][3]int {
	var all [][3]int
	for z := 1; z <= most; z++ {
		for y := 1; y <= z; y++ {
			for x := 1; x <= y; x++ {
				if x*x+y*y+z*z == k*x*y*z {
					all = append(all, [3]int{x, y, z})
				}
			}
		}
	}
	return all
}

// P9.5: Other, with all lists of numbers of at most 1000.
func TestOtherAgainstTerms(t *testing.T) {
	for k := 1; k <= 5; k++ {
		want := othersOf(k, api.MaxOther)
		for most := 1; most <= api.MaxOther; most++ {
			if most > 100 && most < 990 && most%37 != 0 {
				continue
			}
			if all, e := camber.Other(k, most); !slices.Equal(all, upTo(want, most)) || e != api.OK {
				t.Errorf("Other(%d, %d) = %v, %d, want %v", k, most, all, e, upTo(want, most))
			}
		}
		for _, l := range want {
			for _, most := range []int{l[2], max(l[2]-1, 1)} {
				if all, e := camber.Other(k, most); !slices.Equal(all, upTo(want, most)) || e != api.OK {
					t.Errorf("Other(%d, %d) = %v, %d, want %v", k, most, all, e, upTo(want, most))
				}
			}
		}
	}
}

// P9.5: Other, with examples.
func TestOtherExamples(t *testing.T) {
	for _, x := range []struct {
		k, most int
		want    [][3]int
	}{
		{1, 2, nil},
		{1, 3, [][3]int{{3, 3, 3}}},
		{1, 20, [][3]int{{3, 3, 3}, {3, 3, 6}, {3, 6, 15}}},
		{2, 1000, nil},
		{3, 1, [][3]int{{1, 1, 1}}},
		{3, 20, [][3]int{{1, 1, 1}, {1, 1, 2}, {1, 2, 5}, {1, 5, 13}}},
	} {
		if all, e := camber.Other(x.k, x.most); !slices.Equal(all, x.want) || e != api.OK {
			t.Errorf("Other(%d, %d) = %v, %d", x.k, x.most, all, e)
		}
	}
}

// P9.5: invalid arguments of Other.
func TestOtherErrors(t *testing.T) {
	for _, k := range []int{0, -1, 6, 1 << 32, 1<<32 + 1, math.MaxInt, math.MinInt} {
		for _, most := range []int{1, 1000, 0, 1001} {
			if all, e := camber.Other(k, most); len(all) != 0 || e != api.ErrArg {
				t.Errorf("Other(%d, %d) = %v, %d", k, most, all, e)
			}
		}
	}
	for k := 1; k <= 5; k++ {
		for _, most := range noNumbers(api.MaxOther) {
			if all, e := camber.Other(k, most); len(all) != 0 || e != api.ErrArg {
				t.Errorf("Other(%d, %d) = %v, %d", k, most, all, e)
			}
		}
	}
}
