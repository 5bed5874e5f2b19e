package stud_test

import (
	"math"
	"slices"
	"testing"

	"remould/api"
	"remould/stud"
)

// P3.2: Roots.
func TestRoots(t *testing.T) {
	cases := []struct {
		p    int
		want []int
	}{
		{3, []int{2}}, {5, []int{2, 3}}, {7, []int{3, 5}}, {11, []int{2, 6, 7, 8}},
		{13, []int{2, 6, 7, 11}}, {17, []int{3, 5, 6, 7, 10, 11, 12, 14}},
	}
	for _, c := range cases {
		if got, e := stud.Roots(c.p); !slices.Equal(got, c.want) || e != api.OK {
			t.Errorf("Roots(%d) = %v, %d, want %v", c.p, got, e, c.want)
		}
		if all := rootsOf(c.p); !slices.Equal(all, c.want) {
			t.Errorf("the roots of %d are %v, not %v", c.p, all, c.want)
		}
	}
	for _, p := range noPrimes() {
		if got, e := stud.Roots(p); len(got) != 0 || e != api.ErrArg {
			t.Errorf("Roots(%d) = %v, %d", p, got, e)
		}
	}
}

// P3.2: Powers.
func TestPowersAgainstTheirRemainders(t *testing.T) {
	for _, p := range primes() {
		for _, g := range rootsOf(p) {
			for shift := range p - 1 {
				want := powersOf(p, g, shift)
				if got, e := stud.Powers(p, g, shift); !slices.Equal(got, want) || e != api.OK {
					t.Errorf("Powers(%d, %d, %d) = %v, %d, want %v", p, g, shift, got, e, want)
				}
			}
		}
	}
}

func TestPowersOfExamples(t *testing.T) {
	cases := []struct {
		p, g, shift int
		want        []int
	}{
		{3, 2, 0, []int{0, 1}}, {3, 2, 1, []int{1, 0}}, {5, 2, 0, []int{0, 1, 3, 2}}, {5, 3, 3, []int{1, 0, 2, 3}},
		{7, 3, 0, []int{0, 2, 1, 5, 3, 4}}, {7, 3, 1, []int{2, 1, 5, 3, 4, 0}}, {7, 5, 5, []int{2, 0, 4, 3, 5, 1}},
	}
	for _, c := range cases {
		if got, e := stud.Powers(c.p, c.g, c.shift); !slices.Equal(got, c.want) || e != api.OK {
			t.Errorf("Powers(%d, %d, %d) = %v, %d, want %v", c.p, c.g, c.shift, got, e, c.want)
		}
	}
}

// noRoots returns numbers that are no roots of a prime, some of which are roots but for a multiple of it.
func noRoots(p int) []int {
	list := []int{math.MinInt, -1000, 1000, math.MaxInt}
	for g := -p; g <= 3*p; g++ {
		if !slices.Contains(rootsOf(p), g) {
			list = append(list, g)
		}
	}
	return list
}

func TestPowersWithInvalidArguments(t *testing.T) {
	refuse := func(p, g, shift int) {
		t.Helper()
		if got, e := stud.Powers(p, g, shift); len(got) != 0 || e != api.ErrArg {
			t.Errorf("Powers(%d, %d, %d) = %v, %d", p, g, shift, got, e)
		}
	}
	for _, p := range noPrimes() {
		for g := range 20 {
			refuse(p, g, 0)
		}
	}
	for _, p := range primes() {
		for _, g := range noRoots(p) {
			refuse(p, g, 0)
		}
		for _, shift := range []int{math.MinInt, -p, -1, p - 1, p, 2 * p, 100, math.MaxInt - p, math.MaxInt} {
			refuse(p, rootsOf(p)[0], shift)
		}
	}
}

// P3.2: Logs.
func TestLogsAgainstTheirSums(t *testing.T) {
	for _, p := range primes() {
		for _, g := range rootsOf(p) {
			for _, h := range rootsOf(p) {
				want := logsOf(p, g, h)
				if got, e := stud.Logs(p, g, h); !slices.Equal(got, want) || e != api.OK {
					t.Errorf("Logs(%d, %d, %d) = %v, %d, want %v", p, g, h, got, e, want)
				}
			}
		}
	}
}

func TestLogsOfExamples(t *testing.T) {
	cases := []struct {
		p, g, h int
		want    []int
	}{
		{3, 2, 2, []int{0}},
		{5, 2, 2, []int{1, 0, 2}}, // 2 + 4, 4 + 2 and 3 + 3 leave 1
		{5, 2, 3, []int{1, 2, 0}}, // 2 + 4, 4 + 2 and 3 + 3, where 3, 4, 2 are the powers of 3
		{5, 3, 2, []int{2, 0, 1}},
		{7, 3, 3, []int{4, 2, 1, 3, 0}},
		{7, 3, 5, []int{0, 2, 3, 1, 4}},
	}
	for _, c := range cases {
		if got, e := stud.Logs(c.p, c.g, c.h); !slices.Equal(got, c.want) || e != api.OK {
			t.Errorf("Logs(%d, %d, %d) = %v, %d, want %v", c.p, c.g, c.h, got, e, c.want)
		}
	}
}

func TestLogsWithInvalidArguments(t *testing.T) {
	refuse := func(p, g, h int) {
		t.Helper()
		if got, e := stud.Logs(p, g, h); len(got) != 0 || e != api.ErrArg {
			t.Errorf("Logs(%d, %d, %d) = %v, %d", p, g, h, got, e)
		}
	}
	for _, p := range noPrimes() {
		for g := range 20 {
			for h := range 20 {
				refuse(p, g, h)
			}
		}
	}
	for _, p := range primes() {
		root := rootsOf(p)[0]
		for _, g := range noRoots(p) {
			refuse(p, g, root)
			refuse(p, root, g)
			refuse(p, g, g)
		}
	}
}

// P3.6: Powers and Logs are clear orders.
func TestKnownOrdersAreClear(t *testing.T) {
	check := func(order []int, columns int) {
		t.Helper()
		if _, is, e := stud.Clear(order); !is || e != api.OK || len(order) != columns {
			t.Errorf("Clear(%v) = %v, %d", order, is, e)
		}
	}
	for _, p := range primes() {
		roots, _ := stud.Roots(p)
		for _, g := range roots {
			for shift := range p - 1 {
				order, _ := stud.Powers(p, g, shift)
				check(order, p-1)
			}
			for _, h := range roots {
				order, _ := stud.Logs(p, g, h)
				check(order, p-2)
			}
		}
	}
}
