package rack_test

import (
	"slices"
	"testing"

	"remould/api"
	"remould/rack"
)

// P7.1: New and Order.
func TestOrders(t *testing.T) {
	for order := range sizes() {
		r := rack.New(order)
		if r == nil {
			t.Fatalf("there is no rack of order %d", order)
		}
		if r.Order() != order || len(r.List()) != 0 || r.Shape() != "-" {
			t.Errorf("New(%d) has order %d, places %v and shape %q", order, r.Order(), r.List(), r.Shape())
		}
		r.Insert(1)
		if r.Order() != order {
			t.Errorf("with a place, a rack of order %d has order %d", order, r.Order())
		}
	}
	for _, order := range noOrders() {
		if rack.New(order) != nil {
			t.Errorf("there is a rack of order %d", order)
		}
	}
}

// model is what a rack should be.
type model struct {
	t     *testing.T
	rack  *rack.Rack
	order int
	there map[int]bool
}

func newModel(t *testing.T, order int) *model {
	return &model{t: t, rack: rack.New(order), order: order, there: map[int]bool{}}
}

func (m *model) insert(x int) {
	m.t.Helper()
	if added, e := m.rack.Insert(x); added == m.there[x] || e != api.OK {
		m.t.Fatalf("order %d, %v: Insert(%d) = %t, %d", m.order, m.set(), x, added, e)
	}
	m.there[x] = true
}

func (m *model) delete(x int) {
	m.t.Helper()
	if removed, e := m.rack.Delete(x); removed != m.there[x] || e != api.OK {
		m.t.Fatalf("order %d, %v: Delete(%d) = %t, %d", m.order, m.set(), x, removed, e)
	}
	delete(m.there, x)
}

func (m *model) set() []int {
	var set []int
	for x := range sizes()[m.order] {
		if m.there[x] {
			set = append(set, x)
		}
	}
	return set
}

// look checks what the rack has.
func (m *model) look() {
	m.t.Helper()
	set := m.set()
	if got := m.rack.List(); !slices.Equal(got, set) {
		m.t.Fatalf("order %d: List = %v, want %v", m.order, got, set)
	}
	if got := m.rack.Shape(); got != shapeOf(set, m.order) {
		m.t.Fatalf("order %d: Shape = %q, want %q", m.order, got, shapeOf(set, m.order))
	}
	for x := range sizes()[m.order] {
		if got, e := m.rack.Has(x); got != m.there[x] || e != api.OK {
			m.t.Fatalf("order %d, %v: Has(%d) = %t, %d", m.order, set, x, got, e)
		}
	}
}

// P7.1: Insert, Delete, Has and List, with all sequences of calls of a length.
func TestAllSequencesOfCalls(t *testing.T) {
	for order, length := range []int{6, 5} {
		u := sizes()[order]
		ways := 1
		for range length {
			ways *= 2 * u
		}
		for way := range ways {
			m := newModel(t, order)
			for left, step := way, 0; step < length; left, step = left/(2*u), step+1 {
				if x := left % u; left/u%2 == 0 {
					m.insert(x)
				} else {
					m.delete(x)
				}
			}
			m.look()
		}
	}
}

// P7.1: a walk through all sets of order 2, each of which differs from the one before by one place.
func TestAllSetsOfOrderTwo(t *testing.T) {
	m := newModel(t, 2)
	m.look()
	for step := 1; step < 1<<16; step++ {
		x := 0
		for step>>x&1 == 0 {
			x++
		}
		if m.there[x] {
			m.insert(x)
			m.delete(x)
			m.delete(x)
		} else {
			m.delete(x)
			m.insert(x)
			m.insert(x)
		}
		if step%5 == 0 {
			m.look()
		}
	}
}

// P7.1: calls with places that are chosen at random, from few or from many, so that racks fill and empty again.
func TestRandomCalls(t *testing.T) {
	random := newRandom()
	for order, u := range sizes() {
		for _, most := range []int{2, 5, 20, 256} {
			m := newModel(t, order)
			for step := range 3000 {
				x := random.IntN(min(u, most)) * max(u/most, 1)
				x += random.IntN(max(u/most, 1)) * (step / 1500)
				// First more are inserted, then more are deleted, and so on.
				if random.IntN(4) == 0 == (step/500%2 == 0) {
					m.delete(x)
				} else {
					m.insert(x)
				}
				if step%7 == 0 {
					m.look()
				}
			}
			for _, x := range random.Perm(u) {
				m.delete(x)
				m.look()
			}
		}
	}
}

func TestPlacesOfExamples(t *testing.T) {
	r := rack.New(3)
	steps := []struct {
		call func(int) (bool, api.Errno)
		x    int
		want bool
		list []int
	}{
		{r.Has, 7, false, nil}, {r.Delete, 7, false, nil}, {r.Insert, 7, true, []int{7}}, {r.Insert, 7, false, []int{7}}, {r.Has, 7, true, []int{7}}, {r.Has, 6, false, []int{7}}, {r.Has, 8, false, []int{7}},
		{r.Insert, 255, true, []int{7, 255}}, {r.Insert, 0, true, []int{0, 7, 255}}, {r.Has, 0, true, []int{0, 7, 255}}, {r.Has, 255, true, []int{0, 7, 255}}, {r.Delete, 8, false, []int{0, 7, 255}},
		{r.Delete, 0, true, []int{7, 255}}, {r.Has, 0, false, []int{7, 255}}, {r.Delete, 0, false, []int{7, 255}}, {r.Insert, 23, true, []int{7, 23, 255}}, {r.Delete, 255, true, []int{7, 23}}, {r.Has, 255, false, []int{7, 23}},
		{r.Delete, 7, true, []int{23}}, {r.Has, 23, true, []int{23}}, {r.Has, 7, false, []int{23}}, {r.Delete, 23, true, nil}, {r.Has, 23, false, nil}, {r.Delete, 23, false, nil}, {r.Insert, 23, true, []int{23}},
	}
	for i, s := range steps {
		if got, e := s.call(s.x); got != s.want || e != api.OK || !slices.Equal(r.List(), s.list) {
			t.Errorf("step %d: %t, %d, places %v, want %t, places %v", i, got, e, r.List(), s.want, s.list)
		}
	}
}

// P7.1: what is no place is refused, and has no effect.
func TestWhatIsNoPlace(t *testing.T) {
	for order := range sizes() {
		for _, set := range someSets(order) {
			r := rackOf(t, order, set)
			for _, x := range noPlaces(order) {
				for name, call := range map[string]func(int) (bool, api.Errno){"Insert": r.Insert, "Delete": r.Delete, "Has": r.Has} {
					if got, e := call(x); got || e != api.ErrArg {
						t.Errorf("order %d: %s(%d) = %t, %d", order, name, x, got, e)
					}
				}
			}
			if got := r.Shape(); got != shapeOf(set, order) || !slices.Equal(r.List(), set) {
				t.Errorf("order %d: %s has become %s", order, brief(set), brief(got))
			}
		}
	}
}
