package camber

import (
	"cmp"
	"slices"
	"strings"

	"remould/api"
)

// letters has the letters of paths, each at the position of the number that it exchanges.
const letters = "LR"

func isPath(path string) bool {
	return len(path) <= api.MaxPath && strings.Trim(path, letters) == ""
}

// start is the triple from which all paths lead.
func start() triple { return triple{1, 2, 5} }

// Path returns the path that leads to the triple.
func Path(l [3]int) (string, api.Errno) {
	t, ok := newTriple(l)
	if !ok {
		return "", api.ErrArg
	}
	if t[2] < start()[2] {
		return "", api.ErrNone
	}
	path := ""
	for t != start() {
		parent := t.up()
		if parent.left() == t {
			path = "L" + path
		} else {
			path = "R" + path
		}
		t = parent
	}
	return path, api.OK
}

// Follow returns the triple to which the path leads.
func Follow(path string) ([3]int, api.Errno) {
	if !isPath(path) {
		return [3]int{}, api.ErrArg
	}
	t := start()
	for i := range len(path) {
		t = t.exchanges()[strings.IndexByte(letters, path[i])]()
		if t.isFull() {
			return [3]int{}, api.ErrFull
		}
	}
	return t, api.OK
}

// compare puts triples into the order of All.
func compare(s, t [3]int) int {
	return cmp.Or(cmp.Compare(s[2], t[2]), cmp.Compare(s[1], t[1]), cmp.Compare(s[0], t[0]))
}

// All returns all triples with numbers of at most most.
func All(most int) ([][3]int, api.Errno) {
	if most < 1 || most > api.MaxTriple {
		return nil, api.ErrArg
	}
	var all [][3]int
	for t := range tree(most) {
		all = append(all, t)
	}
	slices.SortFunc(all, compare)
	return all, api.OK
}
