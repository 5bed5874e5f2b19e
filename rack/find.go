package rack

// has reports whether x is in a set.
func has(s shape, x int) bool {
	if x == s.smallest() || x == s.greatest() {
		return true
	}
	switch n := s.(type) {
	case *tree:
		shelf, spot := n.split(x)
		return has(n.on(shelf), spot)
	}
	return false
}

// next returns the smallest place of a set that is greater than x, or above, and the work of finding it.
func next(s shape, x int) (found, work int) {
	switch n := s.(type) {
	case pair:
		return n.next(x), 1
	case *tree:
		return n.next(x)
	}
	return above, 1
}

func (p pair) next(x int) int {
	if x < p.low {
		return p.low
	}
	if x < p.high {
		return p.high
	}
	return above
}

func (t *tree) next(x int) (found, work int) {
	if x < t.low {
		return t.low, 1
	}
	shelf, spot := t.split(x)
	if spots := t.on(shelf); spots.greatest() > spot {
		found, work = next(spots, spot)
		return t.join(shelf, found), work + 1
	}
	found, work = next(t.shelves, shelf)
	if found == above {
		return above, work + 1
	}
	return t.first(found), work + 1
}

// before returns the greatest place of a set that is less than x, or below.
func before(s shape, x int) int {
	switch n := s.(type) {
	case pair:
		return n.before(x)
	case *tree:
		return n.before(x)
	}
	return below
}

func (p pair) before(x int) int {
	if x > p.high {
		return p.high
	}
	if x > p.low {
		return p.low
	}
	return below
}

func (t *tree) before(x int) int {
	if x <= t.low {
		return below
	}
	shelf, spot := t.split(x)
	if spots := t.on(shelf); spots.smallest() < spot {
		return t.join(shelf, before(spots, spot))
	}
	found := before(t.shelves, shelf)
	if found == below {
		return t.low
	}
	return t.last(found)
}

// placesBetween lists the places of a set from low to high, in ascending order.
func placesBetween(s shape, low, high int) []int {
	var places []int
	for place, _ := next(s, low-1); place <= high; place, _ = next(s, place) {
		places = append(places, place)
	}
	return places
}

// placesOf lists the places of a set, in ascending order.
func placesOf(s shape) []int { return placesBetween(s, 0, above-1) }
