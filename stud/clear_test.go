package stud_test

import (
	"testing"

	"remould/api"
	"remould/stud"
)

// P3.1: Clear.
func TestClearAgainstAllFourColumns(t *testing.T) {
	for _, order := range append(smallOrders(6), longOrders()...) {
		want, found := sameSteps(order)
		if got, is, e := stud.Clear(order); got != want || is == found || e != api.OK {
			t.Errorf("Clear(%v) = %v, %v, %d, want %v, %v", order, got, is, e, want, !found)
		}
	}
}

func TestClearOfExamples(t *testing.T) {
	cases := []struct {
		order []int
		want  [4]int
		is    bool
	}{
		{[]int{0}, [4]int{}, true},
		{[]int{0, 1}, [4]int{}, true},
		{[]int{1, 0}, [4]int{}, true},
		{[]int{0, 2, 1}, [4]int{}, true},
		{[]int{0, 1, 3, 2}, [4]int{}, true},
		{[]int{0, 1, 2}, [4]int{0, 1, 1, 2}, false},
		{[]int{2, 1, 0}, [4]int{0, 1, 1, 2}, false},
		{[]int{0, 1, 2, 3}, [4]int{0, 1, 1, 2}, false},
		{[]int{0, 3, 1, 2}, [4]int{}, true},
		{[]int{0, 2, 1, 3}, [4]int{0, 1, 2, 3}, false},
		{[]int{1, 3, 0, 2}, [4]int{0, 1, 2, 3}, false},
		{[]int{3, 0, 1, 2}, [4]int{1, 2, 2, 3}, false},
		{[]int{0, 3, 2, 1}, [4]int{1, 2, 2, 3}, false},
		{[]int{0, 4, 1, 3, 2}, [4]int{0, 2, 2, 4}, false},    // 1 over two columns
		{[]int{0, 2, 1, 4, 3}, [4]int{1, 2, 3, 4}, false},    // 1 3 and 2 4 are such pairs, too
		{[]int{0, 1, 5, 2, 4, 3}, [4]int{1, 3, 3, 5}, false}, // 1 over two columns
		{[]int{2, 0, 1, 4, 3, 5}, [4]int{}, true},
	}
	for _, c := range cases {
		if got, is, e := stud.Clear(c.order); got != c.want || is != c.is || e != api.OK {
			t.Errorf("Clear(%v) = %v, %v, %d, want %v, %v", c.order, got, is, e, c.want, c.is)
		}
	}
	for _, order := range noOrders() {
		if got, is, e := stud.Clear(order); got != [4]int{} || is || e != api.ErrArg {
			t.Errorf("Clear(%.30v) = %v, %v, %d", order, got, is, e)
		}
	}
}

// P3.1: Triangle.
func TestTriangleAgainstAllDistances(t *testing.T) {
	for _, order := range someOrders() {
		var want [][]int
		for distance := 1; distance < len(order); distance++ {
			var list []int
			for i := 0; i+distance < len(order); i++ {
				list = append(list, order[i+distance]-order[i])
			}
			want = append(want, list)
		}
		if got, e := stud.Triangle(order); !same(got, want) || e != api.OK {
			t.Errorf("Triangle(%v) = %v, %d, want %v", order, got, e, want)
		}
	}
}

func TestTriangleOfExamples(t *testing.T) {
	cases := []struct {
		order []int
		want  [][]int
	}{
		{[]int{0}, nil},
		{[]int{0, 1}, [][]int{{1}}},
		{[]int{1, 0}, [][]int{{-1}}},
		{[]int{0, 1, 3, 2}, [][]int{{1, 2, -1}, {3, 1}, {2}}},
		{[]int{0, 1, 2}, [][]int{{1, 1}, {2}}},
		{[]int{4, 0, 3, 1, 2}, [][]int{{-4, 3, -2, 1}, {-1, 1, -1}, {-3, 2}, {-2}}},
	}
	for _, c := range cases {
		if got, e := stud.Triangle(c.order); !same(got, c.want) || e != api.OK {
			t.Errorf("Triangle(%v) = %v, %d, want %v", c.order, got, e, c.want)
		}
	}
	for _, order := range noOrders() {
		if got, e := stud.Triangle(order); len(got) != 0 || e != api.ErrArg {
			t.Errorf("Triangle(%.30v) = %v, %d", order, got, e)
		}
	}
}
