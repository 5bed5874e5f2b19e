package tread_test

import (
	"strings"
	"testing"

	"remould/api"
	"remould/tread"
)

// P2.1: Loop.
func TestLoopAgainstShortestWaysBack(t *testing.T) {
	most := 0
	for _, s := range someSets() {
		want := shortestLoop(s.q, s.set)
		got, e := tread.Loop(s.q, s.set)
		if got != want || (e == api.OK) != (want != "") || e != api.OK && e != api.ErrNone {
			t.Errorf("Loop(%d, %q) = %q, %d, want %q", s.q, s.set, got, e, want)
		}
		most = max(most, len(got))
	}
	if most < 8 {
		t.Errorf("no loop has more than %d letters", most)
	}
}

func TestLoopAgainstAllWords(t *testing.T) {
	for _, s := range someSets() {
		want := ""
		for n := 1; n <= 7 && want == ""; n++ {
			for _, word := range wordsOf(s.q, n) {
				if goesRound(s.set, word) {
					want = word
					break
				}
			}
		}
		if got, e := tread.Loop(s.q, s.set); want != "" && (got != want || e != api.OK) || len(got) <= 7 && got != want {
			t.Errorf("Loop(%d, %q) = %q, %d, want %q", s.q, s.set, got, e, want)
		}
	}
}

func TestLoopOfExamples(t *testing.T) {
	cases := []struct {
		q    int
		set  []string
		want string
	}{
		{2, []string{"aa", "bb"}, "ab"},
		{2, nil, "a"},
		{2, []string{"a"}, "b"},
		{3, []string{"a", "b"}, "c"},
		{3, []string{"aa", "ab", "ac", "bb", "cc"}, "bc"},
		{3, []string{"aa", "ba", "bb", "cb", "cc"}, "ac"},
		{3, []string{"aa", "ba", "bb", "ca", "cc"}, "bc"},
		{3, []string{"aa", "ba", "bb", "ac", "cc"}, "bc"},
		{3, []string{"aa", "ac", "bb", "ba", "cc", "cb"}, "abc"},
		{2, []string{"aaa", "bb", "bab"}, "aab"},
		{2, []string{"aaaaa", "aabaa", "ababa", "abbaa", "abbab", "abbba", "bbaab", "bbbab", "bbbbb"}, "aaabbbb"},
	}
	for _, c := range cases {
		set := makeSet(c.set)
		if got, e := tread.Loop(c.q, set); got != c.want || e != api.OK {
			t.Errorf("Loop(%d, %q) = %q, %d, want %q", c.q, set, got, e, c.want)
		}
	}
	for _, s := range []treads{{1, []string{"a"}}, {2, []string{"a", "b"}}, {2, []string{"aa", "ab", "bb"}}} {
		if got, e := tread.Loop(s.q, s.set); got != "" || e != api.ErrNone {
			t.Errorf("Loop(%d, %q) = %q, %d, want none", s.q, s.set, got, e)
		}
	}
	for _, s := range noSets() {
		if got, e := tread.Loop(s.q, s.set); got != "" || e != api.ErrArg {
			t.Errorf("Loop(%d, %.100q) = %q, %d", s.q, s.set, got, e)
		}
	}
}

// P2.1: Check.
func TestCheckAgainstRepetitions(t *testing.T) {
	for _, s := range someSets() {
		for n := range 6 {
			for _, word := range wordsOf(s.q, n) {
				want := api.ErrAnswer
				if goesRound(s.set, word) {
					want = api.OK
				}
				if e := tread.Check(s.q, s.set, word); e != want {
					t.Fatalf("Check(%d, %q, %q) = %d, want %d", s.q, s.set, word, e, want)
				}
			}
		}
	}
}

func TestCheckOfExamples(t *testing.T) {
	cases := []struct {
		q    int
		set  []string
		loop string
		want api.Errno
	}{
		{2, []string{"aa", "bb"}, "ab", api.OK},
		{2, []string{"aa", "bb"}, "ba", api.OK},
		{2, []string{"aa", "bb"}, "aba", api.ErrAnswer},
		{2, []string{"aa", "bb"}, "a", api.ErrAnswer},
		{2, []string{"aa", "bb"}, "", api.ErrAnswer},
		{2, nil, "", api.ErrAnswer},
		{2, nil, "abba", api.OK},
		{1, []string{"aaaaa"}, "a", api.ErrAnswer},
		{2, []string{"ababa"}, "ab", api.ErrAnswer},
		{2, []string{"babab"}, "ab", api.ErrAnswer},
		{2, []string{"abaab"}, "aab", api.ErrAnswer},
		{2, []string{"a"}, "b", api.OK},
		{2, nil, strings.Repeat("ab", api.MaxLoop/2), api.OK},
		{2, []string{"bb"}, strings.Repeat("ab", api.MaxLoop/2), api.OK},
		{2, []string{"bb"}, strings.Repeat("ab", api.MaxLoop/2-1) + "bb", api.ErrAnswer},
		{2, []string{"aa"}, "a" + strings.Repeat("b", api.MaxLoop-2) + "a", api.ErrAnswer},
		{2, []string{"bbbaa"}, "a" + strings.Repeat("b", api.MaxLoop-2) + "a", api.ErrAnswer},
		{2, []string{"baaaa"}, "aaa" + strings.Repeat("b", api.MaxLoop-4) + "a", api.ErrAnswer},
		{2, nil, strings.Repeat("a", api.MaxLoop+1), api.ErrArg},
		{2, []string{"a"}, strings.Repeat("a", api.MaxLoop+1), api.ErrArg},
		{2, nil, strings.Repeat("ab", 1000000), api.ErrArg},
		{2, nil, "c", api.ErrArg},
		{2, []string{"a"}, "ac", api.ErrArg},
		{1, nil, "ab", api.ErrArg},
		{3, nil, "abcd", api.ErrArg},
		{3, nil, "a\x00", api.ErrArg},
		{3, nil, "A", api.ErrArg},
		{3, nil, "é", api.ErrArg},
	}
	for _, c := range cases {
		if e := tread.Check(c.q, c.set, c.loop); e != c.want {
			t.Errorf("Check(%d, %q, %.50q) = %d, want %d", c.q, c.set, c.loop, e, c.want)
		}
	}
	for _, s := range noSets() {
		for _, loop := range []string{"", "a", "d"} {
			if e := tread.Check(s.q, s.set, loop); e != api.ErrArg {
				t.Errorf("Check(%d, %.100q, %q) = %d", s.q, s.set, loop, e)
			}
		}
	}
}
