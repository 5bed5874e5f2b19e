package rack_test

import (
	"fmt"
	"math"
	"math/rand/v2"
	"slices"
	"strconv"
	"strings"
	"testing"

	"remould/api"
	"remould/rack"
)

// The helpers below follow the chapter word by word, without any code of the package, so that the tests compare two ways to the same result. A set is a list of its places in ascending order.

// sizes has the number of places for each order.
func sizes() []int { return []int{2, 4, 16, 256} }

// parts returns the shelves of a set, in ascending order, with the set of the spots on each of them.
func parts(set []int, order int) (shelves []int, spots map[int][]int) {
	r := sizes()[order-1]
	spots = map[int][]int{}
	for _, z := range set[1:] {
		if _, found := spots[z/r]; !found {
			shelves = append(shelves, z/r)
		}
		spots[z/r] = append(spots[z/r], z%r)
	}
	return shelves, spots
}

// shapeOf returns the shape of a set.
func shapeOf(set []int, order int) string {
	if len(set) == 0 {
		return "-"
	}
	ends := fmt.Sprintf("%d:%d", set[0], set[len(set)-1])
	if order == 0 {
		return ends
	}
	if len(set) == 1 {
		return ends + "()"
	}
	shelves, spots := parts(set, order)
	text := ends + "(" + shapeOf(shelves, order-1)
	for _, s := range shelves {
		text += fmt.Sprintf("|%d:%s", s, shapeOf(spots[s], order-1))
	}
	return text + ")"
}

// workOf returns the work of finding the next place of a set after x.
func workOf(set []int, order, x int) int {
	if order == 0 || len(set) == 0 || x < set[0] {
		return 1
	}
	r := sizes()[order-1]
	shelves, spots := parts(set, order)
	if on := spots[x/r]; len(on) > 0 && slices.Max(on) > x%r {
		return 1 + workOf(on, order-1, x%r)
	}
	return 1 + workOf(shelves, order-1, x/r)
}

// sizeOf returns the number of shapes in the shape of a set.
func sizeOf(set []int, order int) int {
	if len(set) == 0 {
		return 0
	}
	if order == 0 {
		return 1
	}
	shelves, spots := parts(set, order)
	total := 1 + sizeOf(shelves, order-1)
	for _, on := range spots {
		total += sizeOf(on, order-1)
	}
	return total
}

// nextOf returns the smallest place of a set that is greater than x.
func nextOf(set []int, x int) (int, api.Errno) {
	for _, place := range set {
		if place > x {
			return place, api.OK
		}
	}
	return 0, api.ErrNone
}

// beforeOf returns the greatest place of a set that is less than x.
func beforeOf(set []int, x int) (int, api.Errno) {
	for _, place := range slices.Backward(set) {
		if place < x {
			return place, api.OK
		}
	}
	return 0, api.ErrNone
}

// countOf returns how many places of a set lie from low to high.
func countOf(set []int, low, high int) int {
	count := 0
	for _, place := range set {
		if low <= place && place <= high {
			count++
		}
	}
	return count
}

// setOf returns the set whose shape of an order is a text, and whether there is one: it takes the text apart at its marks, and looks whether what it got has this shape.
func setOf(text string, order int) ([]int, bool) {
	set := named(text, order)
	slices.Sort(set)
	set = slices.Compact(set)
	for _, place := range set {
		if place < 0 || place >= sizes()[order] {
			return nil, false
		}
	}
	if shapeOf(set, order) != text {
		return nil, false
	}
	return set, true
}

// named returns the places that a text names, whatever it is.
func named(text string, order int) []int {
	if text == "-" || order < 0 {
		return nil
	}
	head, inside, _ := strings.Cut(text, "(")
	low, high, _ := strings.Cut(head, ":")
	set := []int{number(low)}
	if order == 0 {
		return append(set, number(high))
	}
	for i, part := range split(strings.TrimSuffix(inside, ")")) {
		if i == 0 {
			continue
		}
		shelf, spots, _ := strings.Cut(part, ":")
		for _, spot := range named(spots, order-1) {
			set = append(set, number(shelf)*sizes()[order-1]+spot)
		}
	}
	return set
}

// split separates a text at each | that is not in parentheses.
func split(text string) []string {
	depth, begin := 0, 0
	var list []string
	for i := range len(text) {
		switch text[i] {
		case '(':
			depth++
		case ')':
			depth--
		case '|':
			if depth == 0 {
				list = append(list, text[begin:i])
				begin = i + 1
			}
		}
	}
	return append(list, text[begin:])
}

func number(text string) int {
	n, err := strconv.Atoi(text)
	if err != nil || n > 1000 {
		return -1
	}
	return n
}

// bitsOf returns the set of the positions of the bits of a number.
func bitsOf(bits int) []int {
	var set []int
	for i := range 16 {
		if bits>>i&1 == 1 {
			set = append(set, i)
		}
	}
	return set
}

// allSets returns all sets of an order of at most 2.
func allSets(order int) [][]int {
	var all [][]int
	for bits := range 1 << sizes()[order] {
		all = append(all, bitsOf(bits))
	}
	return all
}

func newRandom() *rand.Rand { return rand.New(rand.NewPCG(7, 13)) }

// someSets returns sets of an order: all of them up to order 1, and else each one place, such that reach a limit, and others that are chosen at random, the same ones each time.
func someSets(order int) [][]int {
	if order <= 1 {
		return allSets(order)
	}
	u, r := sizes()[order], sizes()[order-1]
	keep := func(is func(z int) bool) []int {
		var set []int
		for z := range u {
			if is(z) {
				set = append(set, z)
			}
		}
		return set
	}
	all := [][]int{nil, {0, u - 1}, {0, 1}, {u - 2, u - 1}, {r - 1, r}, {0, r}, {0, r - 1, r}, {r, 2 * r}}
	for z := range u {
		all = append(all, []int{z}, keep(func(y int) bool { return y != z }))
	}
	for s := range r {
		all = append(all,
			keep(func(z int) bool { return z/r == s }), keep(func(z int) bool { return z%r == s }), keep(func(z int) bool { return z/r != s }), keep(func(z int) bool { return z%r != s }),
			keep(func(z int) bool { return z/r >= s }), keep(func(z int) bool { return z/r == z%r || z/r == s }), keep(func(z int) bool { return z%(s+1) == 0 }))
	}
	random := newRandom()
	for _, of := range []int{2, 3, 8, 20, 50, 100} {
		for range 25 {
			all = append(all, keep(func(int) bool { return random.IntN(of) == 0 }), keep(func(int) bool { return random.IntN(of) != 0 }))
		}
	}
	return append(all, keep(func(int) bool { return true }))
}

// rackOf returns a rack of an order with the places of a list, which are inserted in this order.
func rackOf(t *testing.T, order int, places []int) *rack.Rack {
	t.Helper()
	r := rack.New(order)
	for _, x := range places {
		if _, e := r.Insert(x); e != api.OK {
			t.Fatalf("order %d: Insert(%d): %d", order, x, e)
		}
	}
	return r
}

func isOf(set []int, x int) bool { return slices.Contains(set, x) }

// noPlaces returns numbers that are no places of an order.
func noPlaces(order int) []int {
	u := sizes()[order]
	return []int{-1, -2, -u, u, u + 1, 2 * u, 256, 257, 65536, 1 << 32, 1<<32 + 1, -1 << 32, math.MinInt, math.MinInt + 1, math.MaxInt - 1, math.MaxInt}
}

func noOrders() []int {
	return []int{-1, -2, -3, -4, -64, api.MaxOrder + 1, 5, 6, 7, 62, 63, 64, 65, 1 << 32, 1<<32 + 1, 1 << 40, math.MinInt, math.MinInt + 1, math.MaxInt - 1, math.MaxInt}
}

// unusables returns racks that New did not return.
func unusables() []*rack.Rack {
	var zero rack.Rack
	return []*rack.Rack{nil, {}, new(rack.Rack), &zero, rack.New(-1), rack.New(api.MaxOrder + 1)}
}

// brief returns a value as a string that is not long.
func brief(value any) string {
	text := fmt.Sprint(value)
	if len(text) > 200 {
		return text[:200] + "..."
	}
	return text
}
