package stud_test

import (
	"math"
	"slices"
	"testing"

	"remould/api"
	"remould/stud"
)

// noCounts returns numbers of columns for which nothing is counted. (A test ends at the first one that is not refused: to count for the greater ones would take too long.)
func noCounts() []int {
	return []int{math.MinInt, -7, -1, 0, api.MaxCount + 1, 9, api.MaxStuds, api.MaxStuds + 1, 1000, math.MaxInt}
}

// P3.3 and P3.6: Count.
func TestCount(t *testing.T) {
	for i, want := range []int{1, 2, 4, 12, 40, 116, 200} {
		if got, e := stud.Count(i + 1); got != want || e != api.OK {
			t.Errorf("Count(%d) = %d, %d, want %d", i+1, got, e, want)
		}
		if all := clearOf(i + 1); len(all) != want {
			t.Errorf("%d orders of %d columns are clear, not %d", len(all), i+1, want)
		}
	}
	for _, n := range noCounts() {
		if got, e := stud.Count(n); got != 0 || e != api.ErrArg {
			t.Fatalf("Count(%d) = %d, %d", n, got, e)
		}
	}
}

// P3.3: Item.
func TestItemAgainstAllOrders(t *testing.T) {
	for n := 1; n <= api.MaxCount; n++ {
		all := clearOf(n)
		for k, want := range all {
			if got, e := stud.Item(n, k); !slices.Equal(got, want) || e != api.OK {
				t.Errorf("Item(%d, %d) = %v, %d, want %v", n, k, got, e, want)
			}
		}
		for _, k := range []int{math.MinInt, -len(all), -1, len(all), len(all) + 1, 2 * len(all), math.MaxInt} {
			if got, e := stud.Item(n, k); len(got) != 0 || e != api.ErrArg {
				t.Errorf("Item(%d, %d) = %v, %d", n, k, got, e)
			}
		}
	}
	for _, n := range noCounts() {
		if got, e := stud.Item(n, 0); len(got) != 0 || e != api.ErrArg {
			t.Fatalf("Item(%d, 0) = %v, %d", n, got, e)
		}
	}
}

func TestItemOfExamples(t *testing.T) {
	cases := []struct {
		n, k int
		want []int
	}{
		{1, 0, []int{0}}, {2, 0, []int{0, 1}}, {2, 1, []int{1, 0}},
		{3, 0, []int{0, 2, 1}}, {3, 1, []int{1, 0, 2}}, {3, 2, []int{1, 2, 0}}, {3, 3, []int{2, 0, 1}},
		{4, 0, []int{0, 1, 3, 2}}, {4, 11, []int{3, 2, 0, 1}},
	}
	for _, c := range cases {
		if got, e := stud.Item(c.n, c.k); !slices.Equal(got, c.want) || e != api.OK {
			t.Errorf("Item(%d, %d) = %v, %d, want %v", c.n, c.k, got, e, c.want)
		}
	}
}

// refuseNext checks that an order has no next one.
func refuseNext(t *testing.T, order []int, want api.Errno) {
	t.Helper()
	if got, e := stud.Next(order); len(got) != 0 || e != want {
		t.Fatalf("Next(%.30v) = %v, %d, want error %d", order, got, e, want)
	}
}

// P3.3: Next.
func TestNextAgainstAllOrders(t *testing.T) {
	for n := 1; n <= api.MaxCount; n++ {
		all := clearOf(n)
		for k, order := range ordersOf(n) {
			// Of the many orders of seven columns some are enough: the first ones, the last ones, and each 23rd.
			if n == api.MaxCount && k > 130 && k < 4900 && k%23 != 0 {
				continue
			}
			at := slices.IndexFunc(all, func(next []int) bool { return slices.Compare(next, order) > 0 })
			if at < 0 {
				refuseNext(t, order, api.ErrNone)
				continue
			}
			if got, e := stud.Next(order); !slices.Equal(got, all[at]) || e != api.OK {
				t.Errorf("Next(%v) = %v, %d, want %v", order, got, e, all[at])
			}
		}
	}
}

func TestNextOfExamples(t *testing.T) {
	cases := []struct{ order, want []int }{
		{[]int{0, 1}, []int{1, 0}},
		{[]int{0, 1, 2}, []int{0, 2, 1}}, // from an order that is not clear
		{[]int{0, 2, 1}, []int{1, 0, 2}},
		{[]int{0, 1, 2, 3}, []int{0, 1, 3, 2}},
		{[]int{0, 1, 3, 2}, []int{0, 2, 3, 1}},
		{[]int{0, 1, 2, 3, 4}, []int{0, 2, 3, 1, 4}},
		{[]int{3, 0, 1, 2, 4}, []int{3, 0, 1, 4, 2}},
	}
	for _, c := range cases {
		if got, e := stud.Next(c.order); !slices.Equal(got, c.want) || e != api.OK {
			t.Errorf("Next(%v) = %v, %d, want %v", c.order, got, e, c.want)
		}
	}
	for _, order := range [][]int{{0}, {1, 0}, {2, 0, 1}, {2, 1, 0}, {3, 2, 0, 1}, {3, 2, 1, 0}, {6, 5, 4, 3, 2, 1, 0}} {
		refuseNext(t, order, api.ErrNone)
	}
}

func TestNextWithInvalidArguments(t *testing.T) {
	for n := api.MaxCount + 1; n <= api.MaxStuds; n++ {
		refuseNext(t, rising(n), api.ErrArg)
		falling := rising(n)
		slices.Reverse(falling)
		refuseNext(t, falling, api.ErrArg)
	}
	for _, order := range noOrders() {
		refuseNext(t, order, api.ErrArg)
	}
}

// startsOf returns all lists of at most n different rows.
func startsOf(n int) [][]int {
	all, last := [][]int{nil}, [][]int{{}}
	for range n {
		var longer [][]int
		for _, start := range last {
			for row := range n {
				if !slices.Contains(start, row) {
					longer = append(longer, append(slices.Clone(start), row))
				}
			}
		}
		all, last = append(all, longer...), longer
	}
	return all
}

// P3.3: Complete.
func TestCompleteAgainstAllOrders(t *testing.T) {
	for n := 1; n <= api.MaxCount; n++ {
		all := clearOf(n)
		for _, start := range startsOf(n) {
			at := slices.IndexFunc(all, func(order []int) bool { return slices.Equal(order[:len(start)], start) })
			got, e := stud.Complete(start, n)
			if at < 0 && (len(got) != 0 || e != api.ErrNone) {
				t.Errorf("Complete(%v, %d) = %v, %d, want none", start, n, got, e)
			}
			if at >= 0 && (!slices.Equal(got, all[at]) || e != api.OK) {
				t.Errorf("Complete(%v, %d) = %v, %d, want %v", start, n, got, e, all[at])
			}
		}
	}
}

func TestCompleteOfExamples(t *testing.T) {
	cases := []struct {
		start []int
		n     int
		want  []int
	}{
		{nil, 1, []int{0}}, {[]int{}, 1, []int{0}}, {[]int{0}, 1, []int{0}}, {nil, 2, []int{0, 1}}, {[]int{1}, 2, []int{1, 0}},
		{nil, 3, []int{0, 2, 1}}, {[]int{1, 2}, 3, []int{1, 2, 0}}, {nil, 4, []int{0, 1, 3, 2}}, {[]int{0, 1, 3, 2}, 4, []int{0, 1, 3, 2}},
		{[]int{3}, 4, []int{3, 0, 2, 1}}, // 3 0 1 2 has 1 2 twice
	}
	for _, c := range cases {
		if got, e := stud.Complete(c.start, c.n); !slices.Equal(got, c.want) || e != api.OK {
			t.Errorf("Complete(%v, %d) = %v, %d, want %v", c.start, c.n, got, e, c.want)
		}
	}
	for _, start := range [][]int{{0, 1}, {2, 1}, {0, 1, 2}} {
		if got, e := stud.Complete(start, 3); len(got) != 0 || e != api.ErrNone {
			t.Errorf("Complete(%v, 3) = %v, %d", start, got, e)
		}
	}
}

func TestCompleteWithInvalidArguments(t *testing.T) {
	cases := []struct {
		start []int
		n     int
	}{
		{[]int{1}, 1}, {[]int{-1}, 1}, {[]int{0, 0}, 1}, {[]int{0, 1}, 1}, {[]int{0, 0}, 2}, {[]int{0, 1, 2}, 2}, {[]int{2}, 2},
		{[]int{3}, 3}, {[]int{0, 3}, 3}, {[]int{0, -1}, 3}, {[]int{1, 0, 1}, 3}, {[]int{0, 1, 0}, 3}, {[]int{0, 1, 2, 3}, 3},
		{[]int{0, 1, 2, 2}, 4}, {[]int{7}, 7}, {[]int{0, 1, 2, 3, 4, 5, 6, 7}, 7}, {[]int{6, 6}, 7},
		{[]int{math.MaxInt}, 7}, {[]int{math.MinInt}, 7}, {make([]int, 100000), 7}, {rising(100000), 7}, {rising(17), 7},
	}
	for _, n := range noCounts() {
		for _, start := range [][]int{nil, {}, {0}, {1, 0}, {3, 1, 0}, {-1}} {
			cases = append(cases, struct {
				start []int
				n     int
			}{start, n})
		}
	}
	for _, c := range cases {
		if got, e := stud.Complete(c.start, c.n); len(got) != 0 || e != api.ErrArg {
			t.Fatalf("Complete(%.30v, %d) = %v, %d", c.start, c.n, got, e)
		}
	}
}
