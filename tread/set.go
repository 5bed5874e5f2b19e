package tread

import (
	"cmp"
	"iter"
	"slices"
	"strings"

	"remould/api"
)

// letterNames has the letters of all treads in ascending order.
const letterNames = "abc"

func isLetters(q int) bool { return 1 <= q && q <= api.MaxLetters }

func isLength(n int) bool { return 0 <= n && n <= api.MaxLong }

// hasLetters reports whether a word has none but the first q letters.
func hasLetters(q int, word string) bool {
	for i := range len(word) {
		if strings.IndexByte(letterNames[:q], word[i]) < 0 {
			return false
		}
	}
	return true
}

func isPattern(q int, pattern string) bool {
	return 1 <= len(pattern) && len(pattern) <= api.MaxPattern && hasLetters(q, pattern)
}

// isSet reports whether q is a number of letters, and the list a set for them.
func isSet(q int, list []string) bool {
	if !isLetters(q) || len(list) > api.MaxPatterns {
		return false
	}
	for i, pattern := range list {
		if !isPattern(q, pattern) || i > 0 && list[i-1] >= pattern {
			return false
		}
	}
	return true
}

// ascending returns the elements of a list in ascending order, each one once, in new memory.
func ascending[E cmp.Ordered](list []E) []E {
	sorted := slices.Clone(list)
	slices.Sort(sorted)
	return slices.Compact(sorted)
}

// words visits all words of length n in ascending order.
func words(q, n int) iter.Seq[string] {
	return func(yield func(string) bool) {
		var extend func(word string) bool
		extend = func(word string) bool {
			if len(word) == n {
				return yield(word)
			}
			for i := range q {
				if !extend(word + letterNames[i:i+1]) {
					return false
				}
			}
			return true
		}
		extend("")
	}
}
