package rack_test

import (
	"testing"

	"remould/api"
	"remould/rack"
)

// P7.2: Min and Max.
func TestEndsAgainstSets(t *testing.T) {
	for order, u := range sizes() {
		for _, set := range someSets(order) {
			r := rackOf(t, order, set)
			low, eLow := nextOf(set, -1)
			high, eHigh := beforeOf(set, u)
			if got, e := r.Min(); got != low || e != eLow {
				t.Errorf("order %d, %s: Min = %d, %d, want %d, %d", order, brief(set), got, e, low, eLow)
			}
			if got, e := r.Max(); got != high || e != eHigh {
				t.Errorf("order %d, %s: Max = %d, %d, want %d, %d", order, brief(set), got, e, high, eHigh)
			}
		}
	}
}

// checkNeighbors checks Next, Before and Work of all places, whether they are there or not.
func checkNeighbors(t *testing.T, r *rack.Rack, set []int, order int) {
	t.Helper()
	for x := range sizes()[order] {
		next, eNext := nextOf(set, x)
		if got, e := r.Next(x); got != next || e != eNext {
			t.Errorf("order %d, %s: Next(%d) = %d, %d, want %d, %d", order, brief(set), x, got, e, next, eNext)
		}
		before, eBefore := beforeOf(set, x)
		if got, e := r.Before(x); got != before || e != eBefore {
			t.Errorf("order %d, %s: Before(%d) = %d, %d, want %d, %d", order, brief(set), x, got, e, before, eBefore)
		}
		work := workOf(set, order, x)
		if got, e := r.Work(x); got != work || e != api.OK {
			t.Errorf("order %d, %s: Work(%d) = %d, %d, want %d", order, brief(set), x, got, e, work)
		}
	}
}

// P7.2: Next, Before and Work.
func TestNeighborsAgainstSets(t *testing.T) {
	for order := range sizes() {
		for _, set := range someSets(order) {
			checkNeighbors(t, rackOf(t, order, set), set, order)
		}
	}
}

func TestNeighborsInSetsOfOrderTwo(t *testing.T) {
	for i, set := range allSets(2) {
		if i%3 == 0 {
			checkNeighbors(t, rackOf(t, 2, set), set, 2)
		}
	}
}

// P7.2: neighbors are those that are there now, also after calls that have taken some away.
func TestNeighborsAfterDeletes(t *testing.T) {
	random := newRandom()
	for order, u := range sizes() {
		for range 10 {
			m := newModel(t, order)
			for _, x := range random.Perm(u) {
				m.insert(x)
			}
			for _, x := range random.Perm(u) {
				m.delete(x)
				if random.IntN(8) == 0 || u <= 16 {
					checkNeighbors(t, m.rack, m.set(), order)
				}
			}
		}
	}
}

func TestNeighborsOfExamples(t *testing.T) {
	type result struct {
		x int
		e api.Errno
	}
	none := result{0, api.ErrNone}
	cases := []struct {
		order        int
		set          []int
		x            int
		next, before result
		work         int
	}{
		// Of the shape `-`, and of order 0, nothing more is looked at.
		{0, nil, 0, none, none, 1}, {1, nil, 3, none, none, 1}, {2, nil, 0, none, none, 1}, {3, nil, 255, none, none, 1},
		{0, []int{0, 1}, 0, result{1, api.OK}, none, 1}, {0, []int{0, 1}, 1, none, result{0, api.OK}, 1}, {0, []int{0}, 0, none, none, 1}, {0, []int{0}, 1, none, result{0, api.OK}, 1}, {0, []int{1}, 0, result{1, api.OK}, none, 1}, {0, []int{1}, 1, none, none, 1},
		// `1:2(1:1|1:0:0)`
		{1, []int{1, 2}, 0, result{1, api.OK}, none, 1}, {1, []int{1, 2}, 1, result{2, api.OK}, none, 2}, {1, []int{1, 2}, 2, none, result{1, api.OK}, 2}, {1, []int{1, 2}, 3, none, result{2, api.OK}, 2},
		// `3:3()`: its set of shelves is empty, but looked at.
		{1, []int{3}, 2, result{3, api.OK}, none, 1}, {1, []int{3}, 3, none, none, 2}, {3, []int{3}, 2, result{3, api.OK}, none, 1}, {3, []int{3}, 3, none, none, 2}, {3, []int{3}, 255, none, result{3, api.OK}, 2},
		// `0:5(1:1()|1:1:1())`
		{2, []int{0, 5}, 0, result{5, api.OK}, none, 2}, {2, []int{0, 5}, 4, result{5, api.OK}, result{0, api.OK}, 2}, {2, []int{0, 5}, 5, none, result{0, api.OK}, 3}, {2, []int{0, 5}, 6, none, result{5, api.OK}, 3},
		// `0:255(0:15(3:3()|3:3:3())|0:1:1()|15:15:15())`
		{3, []int{0, 1, 255}, 0, result{1, api.OK}, none, 2}, {3, []int{0, 1, 255}, 1, result{255, api.OK}, result{0, api.OK}, 3}, {3, []int{0, 1, 255}, 254, result{255, api.OK}, result{1, api.OK}, 2}, {3, []int{0, 1, 255}, 255, none, result{1, api.OK}, 4},
		{3, []int{0, 255}, 255, none, result{0, api.OK}, 3}, {3, []int{255}, 254, result{255, api.OK}, none, 1},
	}
	for _, c := range cases {
		r := rackOf(t, c.order, c.set)
		next, e := r.Next(c.x)
		if (result{next, e}) != c.next {
			t.Errorf("order %d, %v: Next(%d) = %d, %d, want %v", c.order, c.set, c.x, next, e, c.next)
		}
		before, e := r.Before(c.x)
		if (result{before, e}) != c.before {
			t.Errorf("order %d, %v: Before(%d) = %d, %d, want %v", c.order, c.set, c.x, before, e, c.before)
		}
		if work, e := r.Work(c.x); work != c.work || e != api.OK {
			t.Errorf("order %d, %v: Work(%d) = %d, %d, want %d", c.order, c.set, c.x, work, e, c.work)
		}
	}
}

// P7.2: Count.
func TestCountAgainstSets(t *testing.T) {
	for order, u := range sizes() {
		for i, set := range someSets(order) {
			r := rackOf(t, order, set)
			for low := i * 5 % 7 * order; low < u; low += 1 + order*order*order/3 {
				for high := i % (order + 1); high < u; high += 1 + order*order*order/3 {
					if got, e := r.Count(low, high); got != countOf(set, low, high) || e != api.OK {
						t.Fatalf("order %d, %s: Count(%d, %d) = %d, %d, want %d", order, brief(set), low, high, got, e, countOf(set, low, high))
					}
				}
			}
			for _, ends := range [][2]int{{0, u - 1}, {0, 0}, {u - 1, u - 1}, {u - 1, 0}, {1, 0}} {
				if got, e := r.Count(ends[0], ends[1]); got != countOf(set, ends[0], ends[1]) || e != api.OK {
					t.Errorf("order %d, %s: Count%v = %d, %d", order, brief(set), ends, got, e)
				}
			}
		}
	}
}

// P7.2: what is no place is refused.
func TestNeighborsOfWhatIsNoPlace(t *testing.T) {
	for order, u := range sizes() {
		for _, set := range [][]int{nil, {0}, {u - 1}, {0, 1, u - 1}} {
			r := rackOf(t, order, set)
			for _, x := range noPlaces(order) {
				for name, call := range map[string]func(int) (int, api.Errno){
					"Next": r.Next, "Before": r.Before, "Work": r.Work,
					"Count from": func(x int) (int, api.Errno) { return r.Count(x, u-1) },
					"Count to":   func(x int) (int, api.Errno) { return r.Count(0, x) },
					"Count at":   func(x int) (int, api.Errno) { return r.Count(x, x) },
				} {
					if got, e := call(x); got != 0 || e != api.ErrArg {
						t.Errorf("order %d, %v: %s %d = %d, %d", order, set, name, x, got, e)
					}
				}
			}
			if got := r.Shape(); got != shapeOf(set, order) {
				t.Errorf("order %d: %v has become %q", order, set, got)
			}
		}
	}
}
