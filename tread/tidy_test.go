package tread_test

import (
	"slices"
	"strings"
	"testing"

	"remould/api"
	"remould/tread"
)

// P2.3: Tidy.
func TestTidyAgainstAllPairs(t *testing.T) {
	shorter := 0
	for _, s := range someSets() {
		var want []string
		for i, pattern := range s.set {
			others := slices.Concat(s.set[:i], s.set[i+1:])
			if avoids(others, pattern) {
				want = append(want, pattern)
			}
		}
		if len(want) < len(s.set) {
			shorter++
		}
		if got, e := tread.Tidy(s.q, s.set); !slices.Equal(got, want) || e != api.OK {
			t.Errorf("Tidy(%d, %q) = %q, %d, want %q", s.q, s.set, got, e, want)
		}
	}
	if shorter < 20 {
		t.Errorf("only %d of the sets are untidy", shorter)
	}
}

func TestTidyOfExamples(t *testing.T) {
	cases := []struct {
		q         int
		set, want []string
	}{
		{1, nil, nil},
		{1, []string{"a", "aa", "aaa"}, []string{"a"}},
		{2, []string{"aa", "ab", "bb"}, []string{"aa", "ab", "bb"}},
		{2, []string{"aab", "ab", "b"}, []string{"b"}},
		{2, []string{"aabaa", "ab", "ba"}, []string{"ab", "ba"}},
		{2, []string{"aba", "babab"}, []string{"aba"}},
		{3, []string{"abc", "abcab", "bca", "cabca"}, []string{"abc", "bca"}},
	}
	for _, c := range cases {
		if got, e := tread.Tidy(c.q, c.set); !slices.Equal(got, c.want) || e != api.OK {
			t.Errorf("Tidy(%d, %q) = %q, %d, want %q", c.q, c.set, got, e, c.want)
		}
	}
	for _, s := range noSets() {
		if got, e := tread.Tidy(s.q, s.set); len(got) != 0 || e != api.ErrArg {
			t.Errorf("Tidy(%d, %.100q) = %q, %d", s.q, s.set, got, e)
		}
	}
}

// P2.3: Needed.
func TestNeededAgainstSmallerSets(t *testing.T) {
	for _, s := range someSets() {
		got, e := tread.Needed(s.q, s.set)
		if !cannotBeAvoided(s.q, s.set) {
			if len(got) != 0 || e != api.ErrNone {
				t.Errorf("Needed(%d, %q) = %q, %d: it is not unavoidable", s.q, s.set, got, e)
			}
			continue
		}
		var want []string
		for i, pattern := range s.set {
			if !cannotBeAvoided(s.q, slices.Concat(s.set[:i], s.set[i+1:])) {
				want = append(want, pattern)
			}
		}
		if !slices.Equal(got, want) || e != api.OK {
			t.Errorf("Needed(%d, %q) = %q, %d, want %q", s.q, s.set, got, e, want)
		}
	}
}

func TestNeededOfExamples(t *testing.T) {
	cases := []struct {
		q         int
		set, want []string
	}{
		{2, []string{"aa", "ab", "bb"}, []string{"aa", "ab", "bb"}},
		{2, []string{"aa", "ab", "ba", "bb"}, []string{"aa", "bb"}},
		{1, []string{"a", "aa"}, nil},
		{1, []string{"aa"}, []string{"aa"}},
		{2, []string{"a", "aa", "b"}, []string{"b"}},
		{3, []string{"a", "b", "c"}, []string{"a", "b", "c"}},
	}
	for _, c := range cases {
		if got, e := tread.Needed(c.q, c.set); !slices.Equal(got, c.want) || e != api.OK {
			t.Errorf("Needed(%d, %q) = %q, %d, want %q", c.q, c.set, got, e, c.want)
		}
	}
	for _, s := range []treads{{1, nil}, {2, []string{"aa", "bb"}}, {3, []string{"a", "b"}}} {
		if got, e := tread.Needed(s.q, s.set); len(got) != 0 || e != api.ErrNone {
			t.Errorf("Needed(%d, %q) = %q, %d", s.q, s.set, got, e)
		}
	}
	for _, s := range noSets() {
		if got, e := tread.Needed(s.q, s.set); len(got) != 0 || e != api.ErrArg {
			t.Errorf("Needed(%d, %.100q) = %q, %d", s.q, s.set, got, e)
		}
	}
}

// P2.3: Overlap.
func TestOverlapAgainstAllNumbers(t *testing.T) {
	var all []string
	for n := range 6 {
		all = append(all, wordsOf(2, n)...)
	}
	for _, u := range all {
		for _, w := range all {
			var want []int
			for k := 1; k <= len(u) && k <= len(w); k++ {
				if strings.HasSuffix(u, w[:k]) {
					want = append(want, k)
				}
			}
			if got, e := tread.Overlap(u, w); !slices.Equal(got, want) || e != api.OK {
				t.Fatalf("Overlap(%q, %q) = %v, %d, want %v", u, w, got, e, want)
			}
		}
	}
}

func TestOverlapOfExamples(t *testing.T) {
	long := strings.Repeat("x", api.MaxLong)
	every := make([]int, api.MaxLong)
	for i := range every {
		every[i] = i + 1
	}
	cases := []struct {
		u, w string
		want []int
	}{
		{"", "", nil}, {"a", "", nil}, {"", "a", nil},
		{"a", "a", []int{1}}, {"ab", "ba", []int{1}}, {"aba", "aba", []int{1, 3}}, {"aba", "abab", []int{1, 3}}, {"abab", "aba", []int{2}},
		{"ab", "ab", []int{2}}, {"ab", "a", nil}, {"ba", "a", []int{1}},
		{"xyz \x00\xff", "\x00\xff", []int{2}}, {"é", "\xa9", []int{1}}, {"DEFG", "FGHI", []int{2}},
		{long, long, every}, {long, "xxy", []int{1, 2}}, {"yx", long, []int{1}},
	}
	for _, c := range cases {
		if got, e := tread.Overlap(c.u, c.w); !slices.Equal(got, c.want) || e != api.OK {
			t.Errorf("Overlap(%q, %q) = %v, %d, want %v", c.u, c.w, got, e, c.want)
		}
	}
	for _, pair := range [][2]string{{long + "x", ""}, {"", long + "x"}, {long + "x", long}, {long, long + "x"}, {strings.Repeat("ab", 500000), "ab"}} {
		if got, e := tread.Overlap(pair[0], pair[1]); len(got) != 0 || e != api.ErrArg {
			t.Errorf("Overlap of %d and %d letters = %v, %d", len(pair[0]), len(pair[1]), got, e)
		}
	}
}
