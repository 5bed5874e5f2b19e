package belt

import (
	"iter"
	"math/bits"

	"remould/api"
)

// sideBits is a side: each vertex has a bit for its character, vertex 0 the highest one, so that sides are ordered as numbers are. The bits of vertices that a graph does not have are 0.
type sideBits uint16

func bitOf(vertex int) sideBits { return 1 << (api.MaxVertices - 1 - vertex) }

func (s sideBits) has(vertex int) bool { return s&bitOf(vertex) != 0 }

func (s sideBits) cuts(e api.Edge) bool { return s.has(e.A) != s.has(e.B) }

func (s sideBits) flipped(vertex int) sideBits { return s ^ bitOf(vertex) }

// readSide reports whether a text is a side of n vertices.
func readSide(n int, text string) (sideBits, bool) {
	if len(text) != n {
		return 0, false
	}
	s := sideBits(0)
	for vertex := range n {
		switch text[vertex] {
		case '0':
		case '1':
			s = s.flipped(vertex)
		default:
			return 0, false
		}
	}
	return s, true
}

func (s sideBits) text(n int) string {
	text := make([]byte, n)
	for vertex := range text {
		text[vertex] = '0'
		if s.has(vertex) {
			text[vertex] = '1'
		}
	}
	return string(text)
}

// sidesBelow visits, in ascending order, the sides of n vertices that are less than end.
func sidesBelow(n int, end sideBits) iter.Seq[sideBits] {
	return func(yield func(sideBits) bool) {
		for s := sideBits(0); s < end && yield(s); s += bitOf(n - 1) {
		}
	}
}

// properSides visits one of each two opposite sides, which cut the same edges: the smaller one.
func properSides(n int) iter.Seq[sideBits] { return sidesBelow(n, bitOf(0)) }

// sidesWith visits, in ascending order, the sides of n vertices with exactly k characters 1.
func sidesWith(n, k int) iter.Seq[sideBits] {
	return func(yield func(sideBits) bool) {
		for s := range sidesBelow(n, 1<<api.MaxVertices) {
			if bits.OnesCount16(uint16(s)) == k && !yield(s) {
				return
			}
		}
	}
}
