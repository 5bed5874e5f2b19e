package tread_test

import (
	"math"
	"testing"

	"remould/api"
	"remould/tread"
)

// P2.1: Growth, by how the numbers for some length and for twice of it compare. The length is a multiple of each short period, so that a period doesn't blur it.
func TestGrowthAgainstNumbers(t *testing.T) {
	const length = 5040
	seen := map[int]int{}
	for _, s := range someSets() {
		want := -1
		once, twice := logOfNumber(s.q, s.set, length), logOfNumber(s.q, s.set, 2*length)
		if !math.IsInf(once, -1) {
			want = int(math.Round((twice - once) / math.Ln2))
		}
		if want > 50 {
			want = -2
		}
		seen[want]++
		if got, e := tread.Growth(s.q, s.set); got != want || e != api.OK {
			t.Errorf("Growth(%d, %q) = %d, %d, want %d", s.q, s.set, got, e, want)
		}
	}
	for degree := -2; degree <= 5; degree++ {
		if seen[degree] == 0 {
			t.Errorf("no set has the growth %d", degree)
		}
	}
}

// logOfNumber returns the logarithm of the number of words of length n that avoid the set.
func logOfNumber(q int, set []string, n int) float64 {
	windows, next := numberedWindows(q, set)
	numbers := make([]float64, len(windows))
	numbers[0] = 1
	scale := 0.0
	for range n {
		longer := make([]float64, len(windows))
		sum := 0.0
		for at, number := range numbers {
			for _, to := range next[at] {
				longer[to] += number
				sum += number
			}
		}
		if sum == 0 {
			return math.Inf(-1)
		}
		for at := range longer {
			longer[at] /= sum
		}
		scale += math.Log(sum)
		numbers = longer
	}
	return scale
}

// numberedWindows returns all last letters, the empty ones first, and for each of them those that can come next.
func numberedWindows(q int, set []string) ([]string, [][]int) {
	windows, next := []string{""}, [][]int{}
	numbers := map[string]int{"": 0}
	for at := 0; at < len(windows); at++ {
		var row []int
		for _, letter := range letters(q) {
			word := windows[at] + letter
			if !avoids(set, word) {
				continue
			}
			last := lastLetters(set, word)
			if _, known := numbers[last]; !known {
				numbers[last] = len(windows)
				windows = append(windows, last)
			}
			row = append(row, numbers[last])
		}
		next = append(next, row)
	}
	return windows, next
}

func TestGrowthOfExamples(t *testing.T) {
	cases := []struct {
		q    int
		set  []string
		want int
	}{
		{2, []string{"b"}, 0},
		{2, []string{"ba"}, 1},
		{2, []string{"aab"}, -2},
		{2, []string{"a", "b"}, -1},
		{2, []string{"aa", "ab", "bb"}, -1},
		{1, nil, 0},
		{1, []string{"aaaaa"}, -1},
		{2, nil, -2},
		{3, nil, -2},
		{3, []string{"a"}, -2},
		{2, []string{"aa", "bb"}, 0},
		{2, []string{"ab", "ba"}, 0},
		{3, []string{"ba", "ca", "cb"}, 2},
		{3, []string{"ba", "ca", "cb", "cc"}, 1},
		{3, []string{"aa", "ba", "bb", "ca", "cb"}, 0},
		{2, []string{"aabb", "bb"}, -2},
		{2, []string{"baa", "bab"}, 1},
		{2, []string{"aa", "bbab"}, 1},
		{3, []string{"aa", "bb", "ca", "cb"}, 1},
	}
	for _, c := range cases {
		if got, e := tread.Growth(c.q, c.set); got != c.want || e != api.OK {
			t.Errorf("Growth(%d, %q) = %d, %d, want %d", c.q, c.set, got, e, c.want)
		}
	}
	for _, s := range noSets() {
		if got, e := tread.Growth(s.q, s.set); got != 0 || e != api.ErrArg {
			t.Errorf("Growth(%d, %.100q) = %d, %d", s.q, s.set, got, e)
		}
	}
}
