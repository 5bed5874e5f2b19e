package rack_test

import (
	"slices"
	"strconv"
	"testing"

	"remould/api"
	"remould/rack"
)

// P7.4: the shape depends only on the set, not on the calls that led to it.
func TestShapeDependsOnTheSet(t *testing.T) {
	random := newRandom()
	for order, u := range sizes() {
		for _, set := range someSets(order) {
			want := rackOf(t, order, set).Shape()
			backward := slices.Clone(set)
			slices.Reverse(backward)
			mixed := slices.Clone(set)
			random.Shuffle(len(mixed), func(i, k int) { mixed[i], mixed[k] = mixed[k], mixed[i] })
			for _, list := range [][]int{backward, mixed, slices.Concat(set, mixed)} {
				if got := rackOf(t, order, list).Shape(); got != want {
					t.Fatalf("order %d: after %s the shape is %q, not %q", order, brief(list), got, want)
				}
			}
			r := rackOf(t, order, random.Perm(u))
			for _, x := range random.Perm(u) {
				if !isOf(set, x) {
					r.Delete(x)
				}
			}
			if got := r.Shape(); got != want {
				t.Fatalf("order %d, %s: after deletes the shape is %q, not %q", order, brief(set), got, want)
			}
		}
	}
}

// P7.4: inserting and deleting a place that was not there leaves the shape as it is; so does deleting and inserting one that was there.
func TestInsertAndDeleteLeaveTheShape(t *testing.T) {
	for order, u := range sizes() {
		for _, set := range someSets(order) {
			r := rackOf(t, order, set)
			shape := r.Shape()
			for x := len(set) % (order + 1); x < u; x += 1 + 16*(order/3) {
				first, second := r.Insert, r.Delete
				if isOf(set, x) {
					first, second = second, first
				}
				first(x)
				if r.Shape() == shape {
					t.Fatalf("order %d: %q does not change with %d", order, shape, x)
				}
				second(x)
				if got := r.Shape(); got != shape {
					t.Fatalf("order %d: with %d %q becomes %q", order, x, shape, got)
				}
			}
		}
	}
}

// P7.4: Next and Before invert each other for places that are there.
func TestNextAndBeforeInvertEachOther(t *testing.T) {
	for order := range sizes() {
		for _, set := range someSets(order) {
			r := rackOf(t, order, set)
			for i, x := range r.List() {
				next, e := r.Next(x)
				if (e == api.OK) != (i < len(set)-1) {
					t.Fatalf("order %d, %s: Next(%d): %d", order, brief(set), x, e)
				}
				if e != api.OK {
					continue
				}
				if got, e := r.Before(next); got != x || e != api.OK {
					t.Errorf("order %d, %s: Next(%d) = %d, Before of which is %d, %d", order, brief(set), x, next, got, e)
				}
			}
		}
	}
}

// P7.4 and P5: Work is at most the order and 1, and there is a set for which it is so much.
func TestWorkIsSmall(t *testing.T) {
	for order, u := range sizes() {
		most := 0
		for _, set := range someSets(order) {
			r := rackOf(t, order, set)
			for x := range u {
				work, e := r.Work(x)
				if work < 1 || e != api.OK {
					t.Fatalf("order %d, %s: Work(%d) = %d, %d", order, brief(set), x, work, e)
				}
				most = max(most, work)
			}
		}
		if most != order+1 {
			t.Errorf("order %d: the most work is %d", order, most)
		}
	}
}

// P7.4 and P3: Read of Shape is List.
func TestReadOfShapeIsList(t *testing.T) {
	for order := range sizes() {
		for _, set := range someSets(order) {
			r := rackOf(t, order, set)
			if got, e := rack.Read(r.Shape(), order); !slices.Equal(got, r.List()) || !slices.Equal(got, set) || e != api.OK {
				t.Errorf("order %d, %s: Read of Shape is %s, %d, List %s", order, brief(set), brief(got), e, brief(r.List()))
			}
		}
	}
	for _, set := range allSets(2) {
		if got, e := rack.Read(shapeOf(set, 2), 2); !slices.Equal(got, set) || e != api.OK {
			t.Fatalf("Read(%q, 2) = %v, %d, want %v", shapeOf(set, 2), got, e, set)
		}
	}
}

// Rule 3, P7.1 to P7.3: an unusable rack, also with what is no place.
func TestUnusableRacks(t *testing.T) {
	for i, r := range unusables() {
		for _, x := range append(noPlaces(3), 0, 1, 3) {
			for name, call := range map[string]func(int) (bool, api.Errno){"Insert": r.Insert, "Delete": r.Delete, "Has": r.Has} {
				if got, e := call(x); got || e != api.ErrUnusable {
					t.Errorf("rack %d: %s(%d) = %t, %d", i, name, x, got, e)
				}
			}
			for name, call := range map[string]func(int) (int, api.Errno){
				"Next": r.Next, "Before": r.Before, "Work": r.Work,
				"Min":        func(int) (int, api.Errno) { return r.Min() },
				"Max":        func(int) (int, api.Errno) { return r.Max() },
				"Count from": func(x int) (int, api.Errno) { return r.Count(x, 1) },
				"Count to":   func(x int) (int, api.Errno) { return r.Count(0, x) },
			} {
				if got, e := call(x); got != 0 || e != api.ErrUnusable {
					t.Errorf("rack %d: %s(%d) = %d, %d", i, name, x, got, e)
				}
			}
		}
		if got := r.List(); len(got) != 0 {
			t.Errorf("rack %d: List = %v", i, got)
		}
		if got := r.Shape(); got != "" {
			t.Errorf("rack %d: Shape = %q", i, got)
		}
		if got := r.Order(); got != -1 {
			t.Errorf("rack %d: Order = %d", i, got)
		}
	}
}

// P2: what one rack returns does not depend on the calls for other ones.
func TestRacksDoNotMeet(t *testing.T) {
	random := newRandom()
	var models []*model
	for order := range sizes() {
		models = append(models, newModel(t, order), newModel(t, order))
	}
	for range 4000 {
		m := models[random.IntN(len(models))]
		x := random.IntN(sizes()[m.order])
		if random.IntN(2) == 0 {
			m.insert(x)
		} else {
			m.delete(x)
		}
		models[random.IntN(len(models))].look()
	}
}

// asked returns what all calls that should change nothing return.
func asked(r *rack.Rack, x int) []string {
	list := []string{brief(r.List()), r.Shape(), strconv.Itoa(r.Order())}
	add := func(result any, e api.Errno) { list = append(list, brief(result), strconv.Itoa(int(e))) }
	has, e := r.Has(x)
	add(has, e)
	low, e := r.Min()
	add(low, e)
	high, e := r.Max()
	add(high, e)
	next, e := r.Next(x)
	add(next, e)
	before, e := r.Before(x)
	add(before, e)
	work, e := r.Work(x)
	add(work, e)
	count, e := r.Count(x, high)
	add(count, e)
	places, e := rack.Read(r.Shape(), r.Order())
	add(places, e)
	size, e := rack.Size(r.Shape())
	add(size, e)
	return list
}

// P1 and P2: questions change nothing, and have the same answers when asked again.
func TestQuestionsChangeNothing(t *testing.T) {
	for order := range sizes() {
		for i, set := range someSets(order) {
			r := rackOf(t, order, set)
			noPlaces := noPlaces(order)
			for _, x := range []int{0, i % sizes()[order], noPlaces[i%len(noPlaces)]} {
				first, second := asked(r, x), asked(r, x)
				if !slices.Equal(first, second) {
					t.Fatalf("order %d, %s, %d: first %v, then %v", order, brief(set), x, first, second)
				}
			}
			if got := r.Shape(); got != shapeOf(set, order) {
				t.Fatalf("order %d: %s has become %q", order, brief(set), got)
			}
		}
	}
}

// spoil changes the memory of a list, and what may lie behind it.
func spoil(list []int) {
	_ = append(list, -9, -9, -9, -9)
	for i := range list {
		list[i] = -9
	}
}

// Rule 5: lists are new memory.
func TestResultsAreNewMemory(t *testing.T) {
	for order := range sizes() {
		for _, set := range someSets(order) {
			r := rackOf(t, order, set)
			first, second := r.List(), r.List()
			spoil(first)
			if !slices.Equal(second, set) || !slices.Equal(r.List(), set) || r.Shape() != shapeOf(set, order) {
				t.Fatalf("order %d: after a change of a List, %s has become %s", order, brief(set), brief(r.List()))
			}
			shape := shapeOf(set, order)
			first, _ = rack.Read(shape, order)
			second, _ = rack.Read(shape, order)
			spoil(first)
			if third, e := rack.Read(shape, order); !slices.Equal(second, set) || !slices.Equal(third, set) || e != api.OK {
				t.Fatalf("after a change of its result, Read(%q, %d) = %s, %d", shape, order, brief(third), e)
			}
		}
	}
}
