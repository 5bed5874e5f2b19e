package stud_test

import (
	"math"
	"slices"
	"testing"

	"remould/api"
	"remould/stud"
)

// P3.5: Meeting.
func TestMeetingAgainstAllColumns(t *testing.T) {
	for _, order := range someOrders() {
		n := len(order)
		for u := -n - 1; u <= n+1; u++ {
			for v := -n - 1; v <= n+1; v++ {
				want := meetingOf(order, u, v)
				if got, e := stud.Meeting(order, u, v); got != want || e != api.OK {
					t.Fatalf("Meeting(%v, %d, %d) = %d, %d, want %d", order, u, v, got, e, want)
				}
			}
		}
	}
}

func TestMeetingOfExamples(t *testing.T) {
	cases := []struct {
		order      []int
		u, v, want int
	}{
		{[]int{0}, 0, 0, 1}, {[]int{0}, 1, 0, 0}, {[]int{0}, 0, 1, 0}, {[]int{0}, -1, 0, 0},
		{[]int{0, 1, 2}, 1, 1, 2}, {[]int{0, 1, 2}, -1, -1, 2}, {[]int{0, 1, 2}, 2, 2, 1}, {[]int{0, 1, 2}, 3, 3, 0}, {[]int{0, 1, 2}, 1, -1, 0},
		{[]int{0, 1, 3, 2}, 1, 2, 1}, {[]int{0, 1, 3, 2}, 2, 1, 1}, {[]int{0, 1, 3, 2}, 0, 0, 4}, {[]int{0, 1, 3, 2}, 0, 1, 0},
		{[]int{1, 3, 0, 2}, 1, 2, 2}, {[]int{1, 3, 0, 2}, 2, -1, 2}, {[]int{1, 3, 0, 2}, -2, 1, 2},
	}
	for _, c := range cases {
		if got, e := stud.Meeting(c.order, c.u, c.v); got != c.want || e != api.OK {
			t.Errorf("Meeting(%v, %d, %d) = %d, %d, want %d", c.order, c.u, c.v, got, e, c.want)
		}
	}
	for _, order := range noOrders() {
		if got, e := stud.Meeting(order, 0, 0); got != 0 || e != api.ErrArg {
			t.Errorf("Meeting(%.30v, 0, 0) = %d, %d", order, got, e)
		}
	}
}

// u and v are any ints, but no two studs are far apart.
func TestMeetingForFarShifts(t *testing.T) {
	far := []int{math.MinInt, math.MinInt + 1, math.MinInt + 3, -1 << 32, -1 << 16, -100, 100, 1 << 16, 1 << 32, 1 << 62, math.MaxInt - 15, math.MaxInt - 3, math.MaxInt - 1, math.MaxInt}
	for _, order := range longOrders() {
		for _, u := range far {
			for v := -1; v <= 1; v++ {
				if got, e := stud.Meeting(order, u, v); got != 0 || e != api.OK {
					t.Errorf("Meeting(%v, %d, %d) = %d, %d", order, u, v, got, e)
				}
				if got, e := stud.Meeting(order, v, u); got != 0 || e != api.OK {
					t.Errorf("Meeting(%v, %d, %d) = %d, %d", order, v, u, got, e)
				}
			}
			for _, v := range far {
				if got, e := stud.Meeting(order, u, v); got != 0 || e != api.OK {
					t.Errorf("Meeting(%v, %d, %d) = %d, %d", order, u, v, got, e)
				}
			}
		}
	}
}

// P3.5: Worst.
func TestWorstAgainstAllShifts(t *testing.T) {
	for _, order := range append(smallOrders(6), longOrders()...) {
		want, shift := 0, [2]int{}
		n := len(order)
		for u := 1; u < n; u++ {
			for v := -n; v <= n; v++ {
				if meeting := meetingOf(order, u, v); meeting > want {
					want, shift = meeting, [2]int{u, v}
				}
			}
		}
		if got, at, e := stud.Worst(order); got != want || at != shift || e != api.OK {
			t.Errorf("Worst(%v) = %d, %v, %d, want %d, %v", order, got, at, e, want, shift)
		}
		for u := -n; u <= n; u++ {
			for v := -n; v <= n; v++ {
				if meeting := meetingOf(order, u, v); meeting > want && (u != 0 || v != 0) {
					t.Errorf("%v has the meeting %d for %d, %d", order, meeting, u, v)
				}
			}
		}
	}
}

func TestWorstOfExamples(t *testing.T) {
	cases := []struct {
		order []int
		want  int
		shift [2]int
	}{
		{[]int{0}, 0, [2]int{0, 0}},
		{[]int{0, 1}, 1, [2]int{1, 1}}, {[]int{1, 0}, 1, [2]int{1, -1}},
		{[]int{0, 1, 2}, 2, [2]int{1, 1}}, {[]int{2, 1, 0}, 2, [2]int{1, -1}},
		{[]int{0, 1, 3, 2}, 1, [2]int{1, -1}}, // of 1, -1 and 1, 1 the smaller one
		{[]int{1, 3, 0, 2}, 2, [2]int{1, 2}},
		{[]int{2, 0, 3, 1}, 2, [2]int{1, -2}},
		{[]int{0, 2, 1, 5, 4, 3}, 3, [2]int{1, -1}},
		{rising(16), 15, [2]int{1, 1}},
	}
	for _, c := range cases {
		if got, shift, e := stud.Worst(c.order); got != c.want || shift != c.shift || e != api.OK {
			t.Errorf("Worst(%v) = %d, %v, %d, want %d, %v", c.order, got, shift, e, c.want, c.shift)
		}
	}
	for _, order := range noOrders() {
		if got, shift, e := stud.Worst(order); got != 0 || shift != [2]int{} || e != api.ErrArg {
			t.Errorf("Worst(%.30v) = %d, %v, %d", order, got, shift, e)
		}
	}
}

// cornersOf returns the corners at which a stud can be added.
func cornersOf(order []int) []int {
	n := len(order)
	var grown []int
	for _, row := range order {
		grown = append(grown, row+1)
	}
	var corners []int
	for corner, with := range [][]int{
		slices.Concat([]int{0}, grown), slices.Concat([]int{n}, order),
		slices.Concat(grown, []int{0}), slices.Concat(order, []int{n}),
	} {
		if isClear(with) {
			corners = append(corners, corner)
		}
	}
	return corners
}

// P3.5: Corners.
func TestCornersAgainstAllCorners(t *testing.T) {
	some := map[int]bool{}
	for _, order := range append(smallOrders(7), longOrders()...) {
		if len(order) == api.MaxStuds {
			continue
		}
		want := cornersOf(order)
		some[len(want)] = true
		if got, e := stud.Corners(order); !slices.Equal(got, want) || e != api.OK {
			t.Errorf("Corners(%v) = %v, %d, want %v", order, got, e, want)
		}
	}
	if !some[0] || !some[1] || !some[2] || !some[4] {
		t.Errorf("the orders have only the numbers %v of corners", some)
	}
}

func TestCornersOfExamples(t *testing.T) {
	cases := []struct{ order, want []int }{
		{[]int{0}, []int{0, 1, 2, 3}},
		{[]int{0, 1}, []int{1, 2}}, // 2 0 1 and 1 2 0
		{[]int{1, 0}, []int{0, 3}}, // 0 2 1 and 1 0 2
		{[]int{0, 1, 2}, nil},
		{rising(15), nil},
	}
	for _, c := range cases {
		if got, e := stud.Corners(c.order); !slices.Equal(got, c.want) || e != api.OK {
			t.Errorf("Corners(%v) = %v, %d, want %v", c.order, got, e, c.want)
		}
	}
}

// The longest orders to which a stud can be added have 15 columns.
func TestCornersOfFifteenColumns(t *testing.T) {
	check := func(order []int) {
		t.Helper()
		want := cornersOf(order)
		if got, e := stud.Corners(order); !slices.Equal(got, want) || e != api.OK {
			t.Errorf("Corners(%v) = %v, %d, want %v", order, got, e, want)
		}
	}
	for _, g := range rootsOf(17) {
		for _, h := range rootsOf(17) {
			check(logsOf(17, g, h))
		}
		// The powers from g^0 on begin with the row 0; this stud can be taken away, and added again.
		var order []int
		for _, row := range powersOf(17, g, 0)[1:] {
			order = append(order, row-1)
		}
		check(order)
		if got, _ := stud.Corners(order); !slices.Contains(got, 0) {
			t.Errorf("Corners(%v) = %v, without 0", order, got)
		}
	}
}

func TestCornersWithInvalidArguments(t *testing.T) {
	full := [][]int{rising(api.MaxStuds), powersOf(17, 3, 0), powersOf(17, 5, 7)}
	for _, order := range append(full, noOrders()...) {
		if got, e := stud.Corners(order); len(got) != 0 || e != api.ErrArg {
			t.Errorf("Corners(%.30v) = %v, %d", order, got, e)
		}
	}
}
