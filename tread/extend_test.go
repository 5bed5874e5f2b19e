package tread_test

import (
	"math"
	"slices"
	"strings"
	"testing"

	"remould/api"
	"remould/tread"
)

// P2.5: Extend, by lists of all words.
func TestExtendAgainstAllWords(t *testing.T) {
	for _, s := range someSets() {
		for n := range 6 {
			all := avoiding(s.q, s.set, n)
			for length := range n + 1 {
				for _, word := range wordsOf(s.q, length) {
					at := slices.IndexFunc(all, func(long string) bool { return strings.HasPrefix(long, word) })
					got, e := tread.Extend(s.q, s.set, word, n)
					if at < 0 && (got != "" || e != api.ErrNone) || at >= 0 && (got != all[at] || e != api.OK) {
						t.Fatalf("Extend(%d, %q, %q, %d) = %q, %d", s.q, s.set, word, n, got, e)
					}
				}
			}
		}
	}
}

// P2.5: Extend of long words, by the smallest words for all last letters.
func TestExtendAgainstSmallestWords(t *testing.T) {
	for _, s := range someSets() {
		for _, start := range []string{"", "a", "aab", "abab", "bbbb", "cab", "ccbba", "babbb"} {
			if strings.Trim(start, strings.Join(letters(s.q), "")) != "" {
				continue
			}
			words := map[string]string{}
			if avoids(s.set, start) {
				words[lastLetters(s.set, start)] = start
			}
			for n := len(start); n <= api.MaxLong; n++ {
				want, none := smallestOf(words), len(words) == 0
				got, e := tread.Extend(s.q, s.set, start, n)
				if got != want || none && e != api.ErrNone || !none && e != api.OK {
					t.Fatalf("Extend(%d, %q, %q, %d) = %q, %d, want %q", s.q, s.set, start, n, got, e, want)
				}
				words = prolong(s.q, s.set, words)
			}
		}
	}
}

func TestExtendOfExamples(t *testing.T) {
	cases := []struct {
		q    int
		set  []string
		word string
		n    int
		want string
		e    api.Errno
	}{
		{2, []string{"aa", "bb"}, "", 5, "ababa", api.OK},
		{2, []string{"aa", "bb"}, "b", 4, "baba", api.OK},
		{2, []string{"aa", "ab"}, "", 3, "bba", api.OK},
		{2, []string{"aa", "ab"}, "a", 1, "a", api.OK},
		{2, []string{"aa", "ab"}, "a", 2, "", api.ErrNone},
		{2, []string{"aa", "ab", "bb"}, "", 2, "ba", api.OK},
		{2, []string{"aa", "ab", "bb"}, "", 3, "", api.ErrNone},
		{2, []string{"aa", "ab", "bb"}, "a", 2, "", api.ErrNone},
		{1, []string{"a"}, "", 0, "", api.OK},
		{1, []string{"a"}, "", 1, "", api.ErrNone},
		{1, []string{"a"}, "a", 1, "", api.ErrNone},
		{2, []string{"ab"}, "aab", 3, "", api.ErrNone},
		{2, []string{"ab"}, "aab", 60, "", api.ErrNone},
		{3, nil, "cba", 6, "cbaaaa", api.OK},
		{3, nil, "", 60, strings.Repeat("a", 60), api.OK},
		{3, nil, strings.Repeat("c", 60), 60, strings.Repeat("c", 60), api.OK},
		{3, []string{"a"}, "cb", 60, "c" + strings.Repeat("b", 59), api.OK},
	}
	for _, c := range cases {
		if got, e := tread.Extend(c.q, c.set, c.word, c.n); got != c.want || e != c.e {
			t.Errorf("Extend(%d, %q, %q, %d) = %q, %d, want %q, %d", c.q, c.set, c.word, c.n, got, e, c.want, c.e)
		}
	}
}

func TestExtendErrors(t *testing.T) {
	for _, s := range noSets() {
		for _, word := range []string{"", "a", "d"} {
			if got, e := tread.Extend(s.q, s.set, word, 5); got != "" || e != api.ErrArg {
				t.Errorf("Extend(%d, %.100q, %q, 5) = %q, %d", s.q, s.set, word, got, e)
			}
		}
	}
	cases := []struct {
		q    int
		word string
		n    int
	}{
		{1, "b", 5}, {2, "abc", 5}, {3, "abcd", 5}, {3, "A", 5}, {3, "a\x00", 5}, {3, "é", 5},
		{2, "ab", 1}, {2, "a", 0}, {2, "", -1}, {2, "", 61}, {2, "a", -1 << 63}, {2, "", math.MaxInt},
		{2, strings.Repeat("a", 61), 61}, {2, strings.Repeat("a", 61), 60}, {2, strings.Repeat("ab", 100000), 60},
	}
	for _, c := range cases {
		for _, set := range [][]string{nil, {"a"}} {
			if got, e := tread.Extend(c.q, set, c.word, c.n); got != "" || e != api.ErrArg {
				t.Errorf("Extend(%d, %q, %.70q, %d) = %q, %d", c.q, set, c.word, c.n, got, e)
			}
		}
	}
}
