package tread_test

import (
	"slices"
	"testing"

	"remould/api"
	"remould/tread"
)

func same(s, t [][]string) bool { return slices.EqualFunc(s, t, slices.Equal[[]string]) }

// ringsOf returns the rings by their definition: each word goes to the ring that has one of its turns.
func ringsOf(q, n int) [][]string {
	var rings [][]string
words:
	for _, word := range wordsOf(q, n) {
		for i, ring := range rings {
			for k := range n {
				if ring[0] == word[k:]+word[:k] {
					rings[i] = append(ring, word)
					continue words
				}
			}
		}
		rings = append(rings, []string{word})
	}
	return rings
}

// P2.4: Rings.
func TestRingsAgainstAllWords(t *testing.T) {
	for q := 1; q <= api.MaxLetters; q++ {
		for n := 1; n <= api.MaxPattern; n++ {
			if got, e := tread.Rings(q, n); !same(got, ringsOf(q, n)) || e != api.OK {
				t.Errorf("Rings(%d, %d) = %q, %d, want %q", q, n, got, e, ringsOf(q, n))
			}
		}
	}
}

func TestRingsOfExamples(t *testing.T) {
	numbers := [][]int{{1, 1, 1, 1, 1}, {2, 3, 4, 6, 8}, {3, 6, 11, 24, 51}}
	for q, row := range numbers {
		for n, want := range row {
			if got, e := tread.Rings(q+1, n+1); len(got) != want || e != api.OK {
				t.Errorf("Rings(%d, %d) has %d rings, %d, want %d", q+1, n+1, len(got), e, want)
			}
		}
	}
	want := [][]string{{"aaaa"}, {"aaab", "aaba", "abaa", "baaa"}, {"aabb", "abba", "baab", "bbaa"}, {"abab", "baba"}, {"abbb", "babb", "bbab", "bbba"}, {"bbbb"}}
	if got, e := tread.Rings(2, 4); !same(got, want) || e != api.OK {
		t.Errorf("Rings(2, 4) = %q, %d, want %q", got, e, want)
	}
}

// P2.4: Few. Each ring has a loop, so that no set has fewer patterns than there are rings.
func TestFewIsUnavoidableAndSmall(t *testing.T) {
	for q := 1; q <= api.MaxLetters; q++ {
		for n := 1; n <= api.MaxPattern; n++ {
			rings := ringsOf(q, n)
			got, e := tread.Few(q, n)
			if len(rings) > api.MaxRings {
				if len(got) != 0 || e != api.ErrArg {
					t.Errorf("Few(%d, %d) = %q, %d: there are %d rings", q, n, got, e, len(rings))
				}
				continue
			}
			if e != api.OK || len(got) != len(rings) || !slices.Equal(got, makeSet(got)) {
				t.Errorf("Few(%d, %d) = %q, %d: not a set of %d patterns", q, n, got, e, len(rings))
			}
			for _, ring := range rings {
				if !slices.ContainsFunc(ring, func(word string) bool { return slices.Contains(got, word) }) {
					t.Errorf("Few(%d, %d) = %q has none of %q", q, n, got, ring)
				}
			}
			if !cannotBeAvoided(q, got) {
				t.Errorf("Few(%d, %d) = %q is not unavoidable", q, n, got)
			}
		}
	}
	if got, e := tread.Few(2, 2); !slices.Equal(got, []string{"aa", "ab", "bb"}) && !slices.Equal(got, []string{"aa", "ba", "bb"}) || e != api.OK {
		t.Errorf("Few(2, 2) = %q, %d", got, e)
	}
}

func TestRingsErrors(t *testing.T) {
	for _, q := range []int{-1 << 63, -1, 0, 4, 1 << 62, 1<<63 - 1} {
		for _, n := range []int{-1 << 63, -1, 0, 1, 2, 5, 6, 1<<63 - 1} {
			checkNoRings(t, q, n)
		}
	}
	for q := 1; q <= api.MaxLetters; q++ {
		for _, n := range []int{-1 << 63, -1, 0, 6, 60, 1 << 62} {
			checkNoRings(t, q, n)
		}
	}
	for n := 4; n <= api.MaxPattern; n++ {
		if got, e := tread.Few(3, n); len(got) != 0 || e != api.ErrArg {
			t.Errorf("Few(3, %d) = %q, %d: it has too many rings", n, got, e)
		}
	}
}

func checkNoRings(t *testing.T, q, n int) {
	t.Helper()
	if got, e := tread.Rings(q, n); len(got) != 0 || e != api.ErrArg {
		t.Errorf("Rings(%d, %d) = %q, %d", q, n, got, e)
	}
	if got, e := tread.Few(q, n); len(got) != 0 || e != api.ErrArg {
		t.Errorf("Few(%d, %d) = %q, %d", q, n, got, e)
	}
}
