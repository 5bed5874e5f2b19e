package stud_test

import (
	"math"
	"slices"
	"testing"

	"remould/api"
	"remould/stud"
)

// P3.4: Turn.
func TestTurnAgainstItsParts(t *testing.T) {
	for _, order := range someOrders() {
		for s := range 8 {
			want := afterSymmetry(order, s)
			if got, e := stud.Turn(order, s); !slices.Equal(got, want) || e != api.OK {
				t.Errorf("Turn(%v, %d) = %v, %d, want %v", order, s, got, e, want)
			}
		}
	}
}

func TestTurnOfExamples(t *testing.T) {
	cases := []struct {
		order []int
		want  [8][]int
	}{
		{[]int{0, 1, 3, 2}, [8][]int{{0, 1, 3, 2}, {2, 3, 1, 0}, {3, 2, 0, 1}, {1, 0, 2, 3}, {0, 1, 3, 2}, {3, 2, 0, 1}, {2, 3, 1, 0}, {1, 0, 2, 3}}},
		{[]int{0, 2, 3, 1}, [8][]int{{0, 2, 3, 1}, {1, 3, 2, 0}, {3, 1, 0, 2}, {2, 0, 1, 3}, {0, 3, 1, 2}, {3, 0, 2, 1}, {2, 1, 3, 0}, {1, 2, 0, 3}}},
		{[]int{0}, [8][]int{{0}, {0}, {0}, {0}, {0}, {0}, {0}, {0}}},
	}
	for _, c := range cases {
		for s, want := range c.want {
			if got, e := stud.Turn(c.order, s); !slices.Equal(got, want) || e != api.OK {
				t.Errorf("Turn(%v, %d) = %v, %d, want %v", c.order, s, got, e, want)
			}
		}
	}
}

func TestTurnWithInvalidArguments(t *testing.T) {
	refuse := func(order []int, s int) {
		t.Helper()
		if got, e := stud.Turn(order, s); len(got) != 0 || e != api.ErrArg {
			t.Errorf("Turn(%.30v, %d) = %v, %d", order, s, got, e)
		}
	}
	for _, s := range []int{math.MinInt, -8, -2, -1, 8, 9, 15, 16, 1 << 32, math.MaxInt} {
		refuse([]int{0, 1, 3, 2}, s)
		refuse([]int{0}, s)
		refuse(nil, s)
	}
	for _, order := range noOrders() {
		for s := range 8 {
			refuse(order, s)
		}
	}
}

// P3.4: First.
func TestFirstAgainstAllSymmetries(t *testing.T) {
	for _, order := range append(smallOrders(6), longOrders()...) {
		var all [][]int
		for s := range 8 {
			if turned := afterSymmetry(order, s); !slices.ContainsFunc(all, func(other []int) bool { return slices.Equal(other, turned) }) {
				all = append(all, turned)
			}
		}
		want := slices.MinFunc(all, slices.Compare[[]int])
		if got, number, e := stud.First(order); !slices.Equal(got, want) || number != len(all) || e != api.OK {
			t.Errorf("First(%v) = %v, %d, %d, want %v, %d", order, got, number, e, want, len(all))
		}
	}
}

func TestFirstOfExamples(t *testing.T) {
	cases := []struct {
		order, want []int
		number      int
	}{
		{[]int{0}, []int{0}, 1},
		{[]int{1, 0}, []int{0, 1}, 2},
		{[]int{0, 1, 2}, []int{0, 1, 2}, 2},
		{[]int{2, 0, 1}, []int{0, 2, 1}, 4},
		{[]int{2, 3, 1, 0}, []int{0, 1, 3, 2}, 4},
		{[]int{1, 3, 0, 2}, []int{1, 3, 0, 2}, 2},
		{[]int{2, 0, 3, 1}, []int{1, 3, 0, 2}, 2},
		{[]int{3, 1, 0, 2}, []int{0, 2, 3, 1}, 8},
		{[]int{2, 1, 3, 0}, []int{0, 2, 3, 1}, 8},
	}
	for _, c := range cases {
		if got, number, e := stud.First(c.order); !slices.Equal(got, c.want) || number != c.number || e != api.OK {
			t.Errorf("First(%v) = %v, %d, %d, want %v, %d", c.order, got, number, e, c.want, c.number)
		}
	}
	for _, order := range noOrders() {
		if got, number, e := stud.First(order); len(got) != 0 || number != 0 || e != api.ErrArg {
			t.Errorf("First(%.30v) = %v, %d, %d", order, got, number, e)
		}
	}
}

// P3.6: symmetries of a clear order are clear, and the numbers of orders that arise divide 8.
func TestSymmetriesOfClearOrders(t *testing.T) {
	for _, order := range append(smallOrders(6), longOrders()...) {
		_, number, e := stud.First(order)
		if e != api.OK || number < 1 || 8%number != 0 {
			t.Errorf("First(%v) has the number %d, %d", order, number, e)
		}
		for s := range 8 {
			turned, _ := stud.Turn(order, s)
			if _, is, e := stud.Clear(turned); is != isClear(order) || e != api.OK {
				t.Errorf("Clear(%v) = %v, %d after the symmetry %d of %v", turned, is, e, s, order)
			}
		}
	}
}
