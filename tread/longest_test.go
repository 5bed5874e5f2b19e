package tread_test

import (
	"testing"

	"remould/api"
	"remould/tread"
)

// P2.1: Longest.
func TestLongestAgainstSmallestWords(t *testing.T) {
	unavoidable := 0
	for _, s := range someSets() {
		want, is := longestAvoiding(s.q, s.set)
		got, e := tread.Longest(s.q, s.set)
		switch {
		case is && (got != want || e != api.OK):
			t.Errorf("Longest(%d, %q) = %q, %d, want %q", s.q, s.set, got, e, want)
		case !is && (got != "" || e != api.ErrNone):
			t.Errorf("Longest(%d, %q) = %q, %d: it is not unavoidable", s.q, s.set, got, e)
		case is:
			unavoidable++
		}
	}
	if unavoidable < 20 {
		t.Errorf("only %d of the sets are unavoidable", unavoidable)
	}
}

func TestLongestAgainstAllWords(t *testing.T) {
	for _, s := range someSets() {
		got, e := tread.Longest(s.q, s.set)
		if e != api.OK || len(got) > 8 {
			continue
		}
		if all := avoiding(s.q, s.set, len(got)); len(all) == 0 || all[0] != got {
			t.Errorf("Longest(%d, %q) = %q: the words of this length are %q", s.q, s.set, got, all)
		}
		if longer := avoiding(s.q, s.set, len(got)+1); len(longer) > 0 {
			t.Errorf("Longest(%d, %q) = %q, but there is %q", s.q, s.set, got, longer[0])
		}
	}
}

func TestLongestOfExamples(t *testing.T) {
	cases := []struct {
		q    int
		set  []string
		want string
	}{
		{2, []string{"aa", "ab", "bb"}, "ba"},
		{2, []string{"a", "b"}, ""},
		{1, []string{"a"}, ""},
		{1, []string{"aaaaa"}, "aaaa"},
		{2, []string{"aa", "ba", "bb"}, "ab"},
		{2, []string{"aaa", "aab", "bab", "bbb"}, "abbaa"},
		{3, []string{"aa", "ab", "ac", "bb", "bc", "cc"}, "cba"},
		{3, []string{"a", "b", "cc"}, "c"},
	}
	for _, c := range cases {
		if got, e := tread.Longest(c.q, c.set); got != c.want || e != api.OK {
			t.Errorf("Longest(%d, %q) = %q, %d, want %q", c.q, c.set, got, e, c.want)
		}
	}
	for _, s := range []treads{{1, nil}, {2, []string{"a"}}, {2, []string{"aa", "bb"}}, {3, []string{"a", "b"}}} {
		if got, e := tread.Longest(s.q, s.set); got != "" || e != api.ErrNone {
			t.Errorf("Longest(%d, %q) = %q, %d, want no such word", s.q, s.set, got, e)
		}
	}
}

func TestLongestErrors(t *testing.T) {
	for _, s := range noSets() {
		if got, e := tread.Longest(s.q, s.set); got != "" || e != api.ErrArg {
			t.Errorf("Longest(%d, %.100q) = %q, %d", s.q, s.set, got, e)
		}
	}
}
