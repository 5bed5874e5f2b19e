package stud_test

import (
	"math"
	"math/rand/v2"
	"slices"

	"remould/api"
)

// The helpers below follow the chapter word by word, without any code of the package, so that the tests compare two ways to the same result.

// ordersOf returns all orders of n columns in lexicographic order.
func ordersOf(n int) [][]int {
	all := [][]int{nil}
	for range n {
		var longer [][]int
		for _, order := range all {
			for row := range n {
				if !slices.Contains(order, row) {
					longer = append(longer, append(slices.Clone(order), row))
				}
			}
		}
		all = longer
	}
	return all
}

// sameSteps returns the smallest i, j, k and l with pairs of the same step, and whether there are such numbers.
func sameSteps(order []int) ([4]int, bool) {
	n := len(order)
	for i := range n {
		for j := i + 1; j < n; j++ {
			for k := i + 1; k < n; k++ {
				for l := k + 1; l < n; l++ {
					if j-i == l-k && order[j]-order[i] == order[l]-order[k] {
						return [4]int{i, j, k, l}, true
					}
				}
			}
		}
	}
	return [4]int{}, false
}

func isClear(order []int) bool {
	_, found := sameSteps(order)
	return !found
}

// clearOf returns all clear orders of n columns in lexicographic order.
func clearOf(n int) [][]int {
	return slices.DeleteFunc(ordersOf(n), func(order []int) bool { return !isClear(order) })
}

// smallOrders returns all orders of at most most columns.
func smallOrders(most int) [][]int {
	var all [][]int
	for n := 1; n <= most; n++ {
		all = append(all, ordersOf(n)...)
	}
	return all
}

// rising returns the order in which each column has its own number as its row.
func rising(n int) []int {
	order := make([]int, n)
	for i := range order {
		order[i] = i
	}
	return order
}

// longOrders returns orders of 6 to 16 columns: such that are chosen at random, the same ones each time, the rising and the falling ones, and clear ones, whole and with two rows exchanged.
func longOrders() [][]int {
	r := rand.New(rand.NewPCG(3, 16))
	var all [][]int
	for n := 6; n <= api.MaxStuds; n++ {
		falling := rising(n)
		slices.Reverse(falling)
		all = append(all, rising(n), falling)
		for range 6 {
			all = append(all, r.Perm(n))
		}
	}
	for _, order := range clearLongOrders() {
		all = append(all, order)
		for range 3 {
			other := slices.Clone(order)
			i, j := r.IntN(len(order)), r.IntN(len(order))
			other[i], other[j] = other[j], other[i]
			all = append(all, other)
		}
	}
	return all
}

// clearLongOrders returns some of the known clear orders of 9 to 16 columns.
func clearLongOrders() [][]int {
	var all [][]int
	for _, p := range []int{11, 13, 17} {
		for _, g := range rootsOf(p)[:2] {
			all = append(all, powersOf(p, g, 0), powersOf(p, g, p-2), powersOf(p, g, 4))
			for _, h := range rootsOf(p)[1:3] {
				all = append(all, logsOf(p, g, h))
			}
		}
	}
	return all
}

func someOrders() [][]int { return append(smallOrders(5), longOrders()...) }

func primes() []int { return []int{3, 5, 7, 11, 13, 17} }

// noPrimes returns what is no prime from 3 to MaxPrime.
func noPrimes() []int {
	return []int{math.MinInt, -17, -7, -3, -2, -1, 0, 1, 2, 4, 6, 8, 9, 10, 12, 14, 15, 16, 18, 19, 23, 25, 289, 65537, math.MaxInt}
}

// rest returns the remainder of a power modulo p.
func rest(p, g, exponent int) int {
	power := 1
	for range exponent {
		power = power * g % p
	}
	return power
}

// rootsOf returns all roots of a prime in ascending order.
func rootsOf(p int) []int {
	var roots []int
	for g := 1; g < p; g++ {
		left := map[int]bool{}
		for exponent := 1; exponent < p; exponent++ {
			left[rest(p, g, exponent)] = true
		}
		if len(left) == p-1 {
			roots = append(roots, g)
		}
	}
	return roots
}

func powersOf(p, g, shift int) []int {
	var order []int
	for i := range p - 1 {
		order = append(order, rest(p, g, i+shift)-1)
	}
	return order
}

func logsOf(p, g, h int) []int {
	order := make([]int, p-2)
	for i := 1; i <= p-2; i++ {
		for j := 1; j <= p-2; j++ {
			if (rest(p, g, i)+rest(p, h, j))%p == 1 {
				order[i-1] = j - 1
			}
		}
	}
	return order
}

// afterSymmetry returns the order after the symmetry s.
func afterSymmetry(order []int, s int) []int {
	n := len(order)
	now := slices.Clone(order)
	if s%2 == 1 {
		for i := range n {
			now[i] = order[n-1-i]
		}
	}
	if s/2%2 == 1 {
		for i := range n {
			now[i] = n - 1 - now[i]
		}
	}
	if s < 4 {
		return now
	}
	var positions []int
	for i := range n {
		positions = append(positions, slices.Index(now, i))
	}
	return positions
}

// meetingOf returns the meeting for a shift by at most some columns and rows.
func meetingOf(order []int, u, v int) int {
	meeting := 0
	for i := range order {
		if 0 <= i+u && i+u < len(order) && order[i+u] == order[i]+v {
			meeting++
		}
	}
	return meeting
}

func same(s, t [][]int) bool { return slices.EqualFunc(s, t, slices.Equal[[]int]) }

// noOrders returns what is no order.
func noOrders() [][]int {
	return [][]int{
		nil, {}, {1}, {-1}, {2}, {0, 0}, {1, 1}, {0, 2}, {1, 2}, {0, -1}, {-1, 0}, {0, 1, 1}, {0, 1, 3}, {1, 2, 3}, {2, 0, 2}, {0, 1, 2, -3},
		{math.MaxInt}, {math.MinInt}, {0, math.MaxInt}, {math.MinInt, 0}, {0, 1, 1 << 32}, {1 << 62, 1, 0},
		append(rising(api.MaxStuds-1), api.MaxStuds-2), append(rising(api.MaxStuds-1), api.MaxStuds),
		rising(api.MaxStuds + 1), rising(100), make([]int, 100000), rising(100000),
	}
}
