package rack

import "remould/api"

// The ends of a set that has none: every place lies between them, so that no place is found in such a set.
const (
	below = -1
	above = 1 << (1 << api.MaxOrder)
)

// shape is the shape of a set of places: empty for one without places, else a pair for order 0, and a *tree for the others.
type shape interface {
	smallest() int
	greatest() int
}

type empty struct{}

func (empty) smallest() int { return above }

func (empty) greatest() int { return below }

// pair has the ends of a set, which are the whole of it if the order is 0.
type pair struct{ low, high int }

func (p pair) smallest() int { return p.low }

func (p pair) greatest() int { return p.high }

// tree keeps all places other than the smallest one on shelves. A shelf without spots is neither in the set of shelves nor in the map.
type tree struct {
	pair
	order   int
	shelves shape
	spots   map[int]shape
}

// size returns the number of places of an order.
func size(order int) int { return 1 << (1 << order) }

// split returns the shelf and the spot of a place.
func (t *tree) split(place int) (shelf, spot int) {
	r := size(t.order - 1)
	return place / r, place % r
}

// join undoes split.
func (t *tree) join(shelf, spot int) int { return shelf*size(t.order-1) + spot }

// on returns the shape of the spots of a shelf, which may have none.
func (t *tree) on(shelf int) shape {
	if spots, there := t.spots[shelf]; there {
		return spots
	}
	return empty{}
}

// first returns the smallest place of those on a shelf, of which there must be one.
func (t *tree) first(shelf int) int { return t.join(shelf, t.on(shelf).smallest()) }

// last returns the greatest place of those on a shelf, of which there must be one.
func (t *tree) last(shelf int) int { return t.join(shelf, t.on(shelf).greatest()) }

// single returns the shape of a set of one place.
func single(order, x int) shape {
	ends := pair{low: x, high: x}
	if order == 0 {
		return ends
	}
	return &tree{pair: ends, order: order, shelves: empty{}, spots: map[int]shape{}}
}

// insert returns the shape of a set of an order after x was added. It may use up the one that it is given.
func insert(s shape, order, x int) shape {
	switch n := s.(type) {
	case pair:
		return pair{low: min(n.low, x), high: max(n.high, x)}
	case *tree:
		n.insert(x)
		return n
	}
	return single(order, x)
}

func (t *tree) insert(x int) {
	if x == t.low {
		return
	}
	if x < t.low {
		x, t.low = t.low, x
	}
	t.high = max(t.high, x)
	shelf, spot := t.split(x)
	if _, there := t.spots[shelf]; !there {
		t.shelves = insert(t.shelves, t.order-1, shelf)
	}
	t.spots[shelf] = insert(t.on(shelf), t.order-1, spot)
}

// remove returns the shape of a set after x, which must be in it, was removed. It may use up the one that it is given.
func remove(s shape, x int) shape {
	if s.smallest() == s.greatest() {
		return empty{}
	}
	switch n := s.(type) {
	case pair:
		other := n.low + n.high - x
		return pair{low: other, high: other}
	case *tree:
		n.remove(x)
	}
	return s
}

// remove is for a place of at least two, so that there is a shelf.
func (t *tree) remove(x int) {
	if x == t.low {
		// The smallest place stands on no shelf: the one that takes its part leaves its shelf.
		x = t.first(t.shelves.smallest())
		t.low = x
	}
	shelf, spot := t.split(x)
	left := remove(t.on(shelf), spot)
	if left.greatest() == below {
		delete(t.spots, shelf)
		t.shelves = remove(t.shelves, shelf)
	} else {
		t.spots[shelf] = left
	}
	t.high = t.low
	if shelf := t.shelves.greatest(); shelf != below {
		t.high = t.last(shelf)
	}
}
