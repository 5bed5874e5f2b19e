package camber_test

import (
	"math"
	"slices"
	"testing"

	"remould/api"
	"remould/camber"
)

// P9.1: IsTriple, with all lists of small numbers.
func TestIsTripleOfSmallNumbers(t *testing.T) {
	for x := -2; x <= 40; x++ {
		for y := -2; y <= 40; y++ {
			for z := -2; z <= 200; z++ {
				l := [3]int{x, y, z}
				if is, e := camber.IsTriple(l); is != isTriple(l) || e != api.OK {
					t.Errorf("IsTriple(%v) = %t, %d", l, is, e)
				}
			}
		}
	}
}

// P9.1: IsTriple, with all triples, their numbers in any order, and numbers near them.
func TestIsTripleNearTriples(t *testing.T) {
	for _, l := range allTriples() {
		x, y, z := l[0], l[1], l[2]
		lists := [][3]int{l, {x, z, y}, {y, x, z}, {y, z, x}, {z, x, y}, {z, y, x}, {-x, -y, z}, {-x, y, -z}, {3 * x, 3 * y, 3 * z}}
		for i := range 3 {
			for _, d := range []int{-1, 1, 1 << 32, -1 << 32, math.MinInt} {
				near := l
				near[i] += d
				lists = append(lists, near)
			}
		}
		for _, l := range lists {
			if is, e := camber.IsTriple(l); is != isTriple(l) || e != api.OK {
				t.Errorf("IsTriple(%v) = %t, %d", l, is, e)
			}
		}
	}
}

// P9.1: what is no triple is an error for all but IsTriple.
func TestNoTriples(t *testing.T) {
	for _, l := range noTriples() {
		if is, e := camber.IsTriple(l); is || e != api.OK {
			t.Errorf("IsTriple(%v) = %t, %d", l, is, e)
		}
		for _, at := range []int{-1, 0, 1, 2, 3} {
			if to, e := camber.Exchange(l, at); to != [3]int{} || e != api.ErrArg {
				t.Errorf("Exchange(%v, %d) = %v, %d", l, at, to, e)
			}
		}
		if parent, e := camber.Parent(l); parent != [3]int{} || e != api.ErrArg {
			t.Errorf("Parent(%v) = %v, %d", l, parent, e)
		}
		if children, e := camber.Children(l); len(children) != 0 || e != api.ErrArg {
			t.Errorf("Children(%v) = %v, %d", l, children, e)
		}
		if path, e := camber.Path(l); path != "" || e != api.ErrArg {
			t.Errorf("Path(%v) = %q, %d", l, path, e)
		}
		if root, e := camber.Root(l); root != 0 || e != api.ErrArg {
			t.Errorf("Root(%v) = %d, %d", l, root, e)
		}
		if form, e := camber.Form(l); form != [3]int{} || e != api.ErrArg {
			t.Errorf("Form(%v) = %v, %d", l, form, e)
		}
	}
}

// P9.1: the example of the chapter, and the first triples.
func TestTreeExamples(t *testing.T) {
	for _, x := range []struct {
		triple, parent [3]int
		children       [][3]int
	}{
		{[3]int{1, 1, 1}, [3]int{}, [][3]int{{1, 1, 2}}},
		{[3]int{1, 1, 2}, [3]int{1, 1, 1}, [][3]int{{1, 2, 5}}},
		{[3]int{1, 2, 5}, [3]int{1, 1, 2}, [][3]int{{2, 5, 29}, {1, 5, 13}}},
		{[3]int{2, 5, 29}, [3]int{1, 2, 5}, [][3]int{{5, 29, 433}, {2, 29, 169}}},
		{[3]int{1, 5, 13}, [3]int{1, 2, 5}, [][3]int{{5, 13, 194}, {1, 13, 34}}},
		{[3]int{5, 13, 194}, [3]int{1, 5, 13}, [][3]int{{13, 194, 7561}, {5, 194, 2897}}},
	} {
		children, e := camber.Children(x.triple)
		if e != api.OK || !slices.Equal(children, x.children) {
			t.Errorf("Children(%v) = %v, %d", x.triple, children, e)
		}
		want := api.OK
		if x.parent == [3]int{} {
			want = api.ErrNone
		}
		if parent, e := camber.Parent(x.triple); parent != x.parent || e != want {
			t.Errorf("Parent(%v) = %v, %d", x.triple, parent, e)
		}
	}
}

// P9.1: Exchange, with all triples.
func TestExchangeAgainstTerms(t *testing.T) {
	full := 0
	for _, l := range allTriples() {
		for at := range 3 {
			want, wantErr := [3]int{}, api.ErrFull
			if to, ok := exchanged(l, at); ok {
				want, wantErr = to, api.OK
			} else {
				full++
			}
			if to, e := camber.Exchange(l, at); to != want || e != wantErr {
				t.Errorf("Exchange(%v, %d) = %v, %d, want %v, %d", l, at, to, e, want, wantErr)
			}
		}
		for _, at := range []int{-1, 3, -3, 1 << 32, math.MaxInt, math.MinInt} {
			if to, e := camber.Exchange(l, at); to != [3]int{} || e != api.ErrArg {
				t.Errorf("Exchange(%v, %d) = %v, %d", l, at, to, e)
			}
		}
	}
	if full == 0 {
		t.Error("no exchange led to a number that is too great")
	}
}

// P9.1: Parent and Children, with all triples: both show the same tree.
func TestParentAndChildrenAgainstTerms(t *testing.T) {
	several := map[int]int{}
	for _, l := range allTriples() {
		var want [][3]int
		for at := range 2 {
			child, ok := exchanged(l, at)
			if ok && (at == 0 || l[0] != l[1]) {
				want = append(want, child)
			}
		}
		children, e := camber.Children(l)
		if !slices.Equal(children, want) || e != api.OK {
			t.Errorf("Children(%v) = %v, %d, want %v", l, children, e, want)
		}
		several[len(children)]++
		for _, child := range children {
			if parent, e := camber.Parent(child); parent != l || e != api.OK {
				t.Errorf("Parent(%v) = %v, %d, want %v", child, parent, e, l)
			}
		}
		if parent, e := camber.Parent(l); l[2] > 1 && (e != api.OK || !isTriple(parent) || parent[2] >= l[2]) {
			t.Errorf("Parent(%v) = %v, %d", l, parent, e)
		}
	}
	if several[0] == 0 || several[1] <= 2 || several[2] == 0 {
		t.Errorf("numbers of children: %v", several)
	}
}
