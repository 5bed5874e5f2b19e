package rack

import (
	"strconv"
	"strings"

	"remould/api"
)

// textOf returns a shape as a string.
func textOf(s shape) string {
	switch n := s.(type) {
	case pair:
		return n.text()
	case *tree:
		return n.text()
	}
	return "-"
}

func (p pair) text() string { return label(p.low, strconv.Itoa(p.high)) }

func (t *tree) text() string {
	var parts []string
	if t.low != t.high {
		parts = append(parts, textOf(t.shelves))
	}
	for _, shelf := range placesOf(t.shelves) {
		parts = append(parts, label(shelf, textOf(t.on(shelf))))
	}
	return t.pair.text() + "(" + strings.Join(parts, "|") + ")"
}

func label(number int, text string) string { return strconv.Itoa(number) + ":" + text }

// count returns the number of shapes in a shape that are not empty.
func count(s shape) int {
	switch n := s.(type) {
	case pair:
		return 1
	case *tree:
		total := 1 + count(n.shelves)
		for _, shelf := range placesOf(n.shelves) {
			total += count(n.on(shelf))
		}
		return total
	}
	return 0
}

// Read returns the places of the set with this shape, in ascending order.
func Read(shape string, order int) ([]int, api.Errno) {
	if !isOrder(order) {
		return nil, api.ErrArg
	}
	set, e := read(shape, order)
	if e != api.OK {
		return nil, e
	}
	return placesOf(set), api.OK
}

// Size returns the number of shapes in a shape of any order, other than that of the empty set. A string that is the shape of two sets, of different orders, has equally many for both.
func Size(shape string) (int, api.Errno) {
	for order := range api.MaxOrder + 1 {
		if set, e := read(shape, order); e == api.OK {
			return count(set), api.OK
		}
	}
	return 0, api.ErrSyntax
}
