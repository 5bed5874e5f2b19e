package camber

import (
	"iter"
	"slices"

	"remould/api"
)

// triple has its numbers in ascending order. An exchange may lead to numbers that are greater than MaxTriple, but lie within the range of int.
type triple [3]int

// newTriple reports whether it is given the numbers of a triple, in their order.
func newTriple(l [3]int) (triple, bool) {
	x, y, z := l[0], l[1], l[2]
	if x < 1 || y < x || z < y || z > api.MaxTriple {
		return triple{}, false
	}
	// 3 x y z may leave the range of int, but the equation says just as well that x x + y y is z times the number that takes its place.
	sum := x*x + y*y
	return l, sum%z == 0 && sum/z == 3*x*y-z
}

func (t triple) isFull() bool { return t[2] > api.MaxTriple }

func (t triple) left() triple { return triple{t[1], t[2], 3*t[1]*t[2] - t[0]} }

func (t triple) right() triple { return triple{t[0], t[2], 3*t[0]*t[2] - t[1]} }

// up leads to the parent, and from 1 1 1, which has none, to 1 1 2.
func (t triple) up() triple {
	exchanged := triple{t[0], t[1], 3*t[0]*t[1] - t[2]}
	slices.Sort(exchanged[:])
	return exchanged
}

// exchanges returns, for each position, what exchanges the number there.
func (t triple) exchanges() []func() triple { return []func() triple{t.left, t.right, t.up} }

// tree visits all triples with numbers of at most most, each before its children.
func tree(most int) iter.Seq[triple] {
	return func(yield func(triple) bool) {
		list := []triple{{1, 1, 1}}
		found := map[triple]bool{}
		for i := 0; i < len(list); i++ {
			t := list[i]
			if t[2] > most || found[t] {
				continue
			}
			if !yield(t) {
				return
			}
			found[t] = true
			for _, exchange := range t.exchanges() {
				list = append(list, exchange())
			}
		}
	}
}
