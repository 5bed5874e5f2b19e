package stud_test

import (
	"slices"
	"testing"

	"remould/api"
	"remould/stud"
)

// P3.6: an order is clear exactly if Worst is at most 1, and exactly if no list of Triangle has a number twice.
func TestClearAndWorstAndTriangle(t *testing.T) {
	for _, order := range append(smallOrders(6), longOrders()...) {
		_, is, e := stud.Clear(order)
		worst, shift, eWorst := stud.Worst(order)
		triangle, eTriangle := stud.Triangle(order)
		if e != api.OK || eWorst != api.OK || eTriangle != api.OK {
			t.Fatalf("%v: errors %d, %d, %d", order, e, eWorst, eTriangle)
		}
		twice := false
		for _, list := range triangle {
			slices.Sort(list)
			twice = twice || len(slices.Compact(list)) < len(list)
		}
		if is != (worst <= 1) || is == twice {
			t.Errorf("%v: Clear %v, Worst %d, a number twice %v", order, is, worst, twice)
		}
		if len(order) == 1 {
			continue
		}
		if meeting, e := stud.Meeting(order, shift[0], shift[1]); meeting != worst || e != api.OK {
			t.Errorf("Meeting(%v, %v) = %d, %d, want %d", order, shift, meeting, e, worst)
		}
	}
}

// P3: what Clear returns of an order that is not clear are pairs of columns of the same step.
func TestPairsOfTheSameStep(t *testing.T) {
	for _, order := range append(smallOrders(6), longOrders()...) {
		c, is, _ := stud.Clear(order)
		if is {
			continue
		}
		i, j, k, l := c[0], c[1], c[2], c[3]
		if !(0 <= i && i < j && i < k && k < l && max(j, l) < len(order)) || j-i != l-k || order[j]-order[i] != order[l]-order[k] {
			t.Errorf("Clear(%v) = %v", order, c)
		}
	}
}

// P3.3: the ways to the clear orders agree.
func TestCountAndItemAndNext(t *testing.T) {
	for n := 1; n <= api.MaxCount; n++ {
		order, e := stud.Complete(nil, n)
		count := 0
		for ; e == api.OK && count < 1000; order, e = stud.Next(order) {
			item, eItem := stud.Item(n, count)
			if _, is, _ := stud.Clear(order); !is || !slices.Equal(item, order) || eItem != api.OK {
				t.Fatalf("Item(%d, %d) = %v, %d, Next gives %v", n, count, item, eItem, order)
			}
			count++
		}
		if number, _ := stud.Count(n); number != count || e != api.ErrNone {
			t.Errorf("Count(%d) = %d, Next gives %d and error %d", n, number, count, e)
		}
	}
}

// calls returns all results that are lists of one call of each function.
func calls(order []int) [][]int {
	triangle, _ := stud.Triangle(order)
	roots, _ := stud.Roots(13)
	powers, _ := stud.Powers(13, 6, 4)
	logs, _ := stud.Logs(13, 6, 7)
	item, _ := stud.Item(5, 20)
	turned, _ := stud.Turn(order, 0)
	exchanged, _ := stud.Turn(order, 4)
	first, _, _ := stud.First(order)
	corners, _ := stud.Corners(order)
	var next []int
	if len(order) <= api.MaxCount {
		next, _ = stud.Next(order)
	}
	completed, _ := stud.Complete(order[:1], min(len(order), api.MaxCount))
	whole, _ := stud.Complete(order, len(order))
	stud.Clear(order)
	stud.Count(5)
	stud.Meeting(order, 1, 1)
	stud.Worst(order)
	return append(triangle, roots, powers, logs, item, turned, exchanged, first, corners, next, completed, whole)
}

// Rule 5 and P2: the same call twice has the same result, and changes nothing that it was given.
func TestArgumentsStayAsTheyAre(t *testing.T) {
	for _, order := range someOrders() {
		// What lies behind the order in its memory must stay, too.
		memory := append(slices.Clone(order), -5, -6, -7)
		given := memory[:len(order)]
		first, second := calls(given), calls(given)
		if !same(first, second) {
			t.Errorf("%v: one call returns %v, the next one %v", order, first, second)
		}
		if !slices.Equal(memory, append(slices.Clone(order), -5, -6, -7)) {
			t.Errorf("%v has become %v", order, memory)
		}
	}
}

// Rule 5: results share no memory with arguments or with each other.
func TestResultsAreNewMemory(t *testing.T) {
	for _, order := range [][]int{{0}, {0, 1, 3, 2}, {0, 1, 2}, {2, 0, 1}, {2, 0, 3, 1}, powersOf(17, 3, 0)} {
		given := slices.Clone(order)
		want, spoilt := calls(given), calls(given)
		for i, list := range spoilt {
			_ = append(list, -1, -1, -1)
			for k := range list {
				list[k] = -1
			}
			if !same(spoilt[i+1:], want[i+1:]) {
				t.Fatalf("%v: the results %d share memory", order, i)
			}
		}
		if got := calls(given); !same(got, want) || !slices.Equal(given, order) {
			t.Errorf("%v: after a change of the results the order is %v, and the calls return %v, not %v", order, given, got, want)
		}
	}
}
