package tread

import (
	"iter"

	"remould/api"
)

func isRings(q, n int) bool { return isLetters(q) && 1 <= n && n <= api.MaxPattern }

// Rings returns the rings of the words of length n.
func Rings(q, n int) ([][]string, api.Errno) {
	if !isRings(q, n) {
		return nil, api.ErrArg
	}
	return rings(q, n), api.OK
}

func rings(q, n int) [][]string {
	var list [][]string
	known := map[string]bool{}
	for word := range words(q, n) {
		if known[word] {
			continue
		}
		ring := turns(word)
		for _, turn := range ring {
			known[turn] = true
		}
		list = append(list, ring)
	}
	return list
}

func turns(word string) []string {
	var list []string
	for i := range len(word) {
		list = append(list, word[i:]+word[:i])
	}
	return ascending(list)
}

// choices visits all lists of one word of each ring. The list is the same memory each time.
func choices(rings [][]string) iter.Seq[[]string] {
	return func(yield func([]string) bool) {
		list := make([]string, len(rings))
		var choose func(at int) bool
		choose = func(at int) bool {
			if at == len(rings) {
				return yield(list)
			}
			for _, word := range rings[at] {
				list[at] = word
				if !choose(at + 1) {
					return false
				}
			}
			return true
		}
		choose(0)
	}
}

// Few returns an unavoidable set with the smallest number of patterns of length n.
func Few(q, n int) ([]string, api.Errno) {
	if !isRings(q, n) {
		return nil, api.ErrArg
	}
	rings := rings(q, n)
	if len(rings) > api.MaxRings {
		return nil, api.ErrArg
	}
	var few []string
	// Each ring has a loop, so that a set needs one pattern of each; some choice of just one of each is enough (P2.6).
search:
	for list := range choices(rings) {
		if isUnavoidable(q, list) {
			few = ascending(list)
			break search
		}
	}
	return few, api.OK
}
