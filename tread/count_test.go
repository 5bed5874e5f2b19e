package tread_test

import (
	"math/big"
	"strings"
	"testing"

	"remould/api"
	"remould/tread"
)

// P2.2: Count, Item and Index, by lists of all words.
func TestCountItemAndIndexAgainstAllWords(t *testing.T) {
	for _, s := range someSets() {
		for n := range 7 {
			all := avoiding(s.q, s.set, n)
			if got, e := tread.Count(s.q, s.set, n); got != len(all) || e != api.OK {
				t.Fatalf("Count(%d, %q, %d) = %d, %d, want %d", s.q, s.set, n, got, e, len(all))
			}
			for k, word := range all {
				if got, e := tread.Item(s.q, s.set, n, k); got != word || e != api.OK {
					t.Fatalf("Item(%d, %q, %d, %d) = %q, %d, want %q", s.q, s.set, n, k, got, e, word)
				}
				if got, e := tread.Index(s.q, s.set, word); got != k || e != api.OK {
					t.Fatalf("Index(%d, %q, %q) = %d, %d, want %d", s.q, s.set, word, got, e, k)
				}
			}
			for _, k := range []int{-1, len(all), 1 << 62, -1 << 63} {
				if got, e := tread.Item(s.q, s.set, n, k); got != "" || e != api.ErrArg {
					t.Fatalf("Item(%d, %q, %d, %d) = %q, %d", s.q, s.set, n, k, got, e)
				}
			}
		}
	}
}

func TestIndexOfWordsThatDoNotAvoid(t *testing.T) {
	for _, s := range someSets() {
		for n := range 6 {
			for _, word := range wordsOf(s.q, n) {
				if avoids(s.set, word) {
					continue
				}
				if got, e := tread.Index(s.q, s.set, word); got != 0 || e != api.ErrNone {
					t.Fatalf("Index(%d, %q, %q) = %d, %d", s.q, s.set, word, got, e)
				}
			}
		}
	}
}

// numbersUpTo returns the numbers of words of all lengths up to n that avoid the set.
func numbersUpTo(q int, set []string, n int) []*big.Int {
	windows, next := numberedWindows(q, set)
	numbers := make([]*big.Int, len(windows))
	for at := range numbers {
		numbers[at] = new(big.Int)
	}
	numbers[0].SetInt64(1)
	list := []*big.Int{big.NewInt(1)}
	for range n {
		longer, sum := make([]*big.Int, len(windows)), new(big.Int)
		for at := range longer {
			longer[at] = new(big.Int)
		}
		for at, number := range numbers {
			for _, to := range next[at] {
				longer[to].Add(longer[to], number)
				sum.Add(sum, number)
			}
		}
		numbers, list = longer, append(list, sum)
	}
	return list
}

// P2.2: long words, and numbers that are too great.
func TestCountOfLongWords(t *testing.T) {
	limit := new(big.Int).Lsh(big.NewInt(1), 60)
	full := 0
	for _, s := range someSets() {
		isFull := false
		for n, want := range numbersUpTo(s.q, s.set, api.MaxLong) {
			isFull = isFull || want.Cmp(limit) > 0
			got, e := tread.Count(s.q, s.set, n)
			switch {
			case isFull && (got != 0 || e != api.ErrFull):
				t.Fatalf("Count(%d, %q, %d) = %d, %d: the number is %v", s.q, s.set, n, got, e, want)
			case !isFull && (e != api.OK || want.Cmp(big.NewInt(int64(got))) != 0):
				t.Fatalf("Count(%d, %q, %d) = %d, %d, want %v", s.q, s.set, n, got, e, want)
			}
			if !isFull && got > 0 {
				checkItems(t, s, n, []int{0, got / 3, got / 2, got - 1})
			}
		}
		if isFull {
			full++
		}
	}
	if full < 5 {
		t.Errorf("only %d of the sets have great numbers", full)
	}
}

// checkItems checks that some words are correct, in order, and lead back to their numbers.
func checkItems(t *testing.T, s treads, n int, numbers []int) {
	t.Helper()
	last := ""
	for _, k := range numbers {
		word, e := tread.Item(s.q, s.set, n, k)
		if e != api.OK || len(word) != n || !avoids(s.set, word) || word < last {
			t.Fatalf("Item(%d, %q, %d, %d) = %q, %d, after %q", s.q, s.set, n, k, word, e, last)
		}
		if index, e := tread.Index(s.q, s.set, word); index != k || e != api.OK {
			t.Fatalf("Index(%d, %q, %q) = %d, %d, want %d", s.q, s.set, word, index, e, k)
		}
		last = word
	}
}

func TestCountOfExamples(t *testing.T) {
	cases := []struct {
		q    int
		set  []string
		n    int
		want int
	}{
		{1, nil, 0, 1}, {1, nil, 60, 1}, {1, []string{"a"}, 0, 1}, {1, []string{"a"}, 1, 0}, {1, []string{"a"}, 60, 0},
		{2, nil, 60, 1 << 60}, {2, nil, 10, 1024}, {3, nil, 37, 450283905890997363},
		{2, []string{"aa"}, 10, 144}, {2, []string{"aa"}, 60, 4052739537881},
		{2, []string{"ba"}, 60, 61}, {2, []string{"aa", "bb"}, 60, 2}, {2, []string{"aa", "ab", "bb"}, 2, 1}, {2, []string{"aa", "ab", "bb"}, 3, 0},
		{3, []string{"c"}, 60, 1 << 60}, {3, []string{"ba", "ca", "cb"}, 60, 61 * 62 / 2},
	}
	for _, c := range cases {
		if got, e := tread.Count(c.q, c.set, c.n); got != c.want || e != api.OK {
			t.Errorf("Count(%d, %q, %d) = %d, %d, want %d", c.q, c.set, c.n, got, e, c.want)
		}
	}
	for n := 38; n <= api.MaxLong; n++ {
		if got, e := tread.Count(3, nil, n); got != 0 || e != api.ErrFull {
			t.Errorf("Count(3, nil, %d) = %d, %d", n, got, e)
		}
	}
	if got, e := tread.Count(3, []string{"cccca"}, 60); got != 0 || e != api.ErrFull {
		t.Errorf("Count of a set that hardly matters = %d, %d", got, e)
	}
}

func TestItemsOfExamples(t *testing.T) {
	all := strings.Repeat("b", 60)
	if got, e := tread.Item(2, nil, 60, 1<<60-1); got != all || e != api.OK {
		t.Errorf("Item = %q, %d", got, e)
	}
	if got, e := tread.Index(2, nil, all); got != 1<<60-1 || e != api.OK {
		t.Errorf("Index = %d, %d", got, e)
	}
	if got, e := tread.Item(2, nil, 60, 1<<60); got != "" || e != api.ErrArg {
		t.Errorf("Item = %q, %d", got, e)
	}
	if got, e := tread.Item(2, []string{"ba"}, 5, 2); got != "aaabb" || e != api.OK {
		t.Errorf("Item = %q, %d", got, e)
	}
	if got, e := tread.Index(2, []string{"ba"}, "aaabb"); got != 2 || e != api.OK {
		t.Errorf("Index = %d, %d", got, e)
	}
	if got, e := tread.Item(1, []string{"a"}, 0, 0); got != "" || e != api.OK {
		t.Errorf("Item of the empty word = %q, %d", got, e)
	}
	if got, e := tread.Item(1, []string{"a"}, 1, 0); got != "" || e != api.ErrArg {
		t.Errorf("Item where there is none = %q, %d", got, e)
	}
}

// P2.2: what comes first if several errors apply.
func TestCountErrors(t *testing.T) {
	for _, s := range noSets() {
		for _, n := range []int{0, -1, 5, 60, 61} {
			if got, e := tread.Count(s.q, s.set, n); got != 0 || e != api.ErrArg {
				t.Errorf("Count(%d, %.100q, %d) = %d, %d", s.q, s.set, n, got, e)
			}
			if got, e := tread.Item(s.q, s.set, n, 0); got != "" || e != api.ErrArg {
				t.Errorf("Item(%d, %.100q, %d, 0) = %q, %d", s.q, s.set, n, got, e)
			}
		}
		for _, word := range []string{"", "a", "d", strings.Repeat("a", 61)} {
			if got, e := tread.Index(s.q, s.set, word); got != 0 || e != api.ErrArg {
				t.Errorf("Index(%d, %.100q, %q) = %d, %d", s.q, s.set, word, got, e)
			}
		}
	}
	for _, n := range []int{-1, 61, 1 << 62, -1 << 63} {
		for q := 1; q <= api.MaxLetters; q++ {
			if got, e := tread.Count(q, nil, n); got != 0 || e != api.ErrArg {
				t.Errorf("Count(%d, nil, %d) = %d, %d", q, n, got, e)
			}
			if got, e := tread.Item(q, nil, n, 0); got != "" || e != api.ErrArg {
				t.Errorf("Item(%d, nil, %d, 0) = %q, %d", q, n, got, e)
			}
		}
	}
	for _, k := range []int{0, -1, 1 << 60, 1 << 62, -1 << 63} {
		if got, e := tread.Item(3, nil, 38, k); got != "" || e != api.ErrFull {
			t.Errorf("Item(3, nil, 38, %d) = %q, %d", k, got, e)
		}
	}
}

func TestIndexErrors(t *testing.T) {
	long := strings.Repeat("abc", 20)
	cases := []struct {
		q    int
		set  []string
		word string
		want api.Errno
	}{
		{1, nil, "b", api.ErrArg}, {2, nil, "abc", api.ErrArg}, {3, nil, "abcd", api.ErrArg}, {3, nil, "A", api.ErrArg}, {3, nil, "a\x00", api.ErrArg},
		{3, nil, long + "a", api.ErrArg}, {1, nil, strings.Repeat("a", 61), api.ErrArg}, {1, []string{"a"}, strings.Repeat("a", 100000), api.ErrArg},
		{2, []string{"a"}, "ac", api.ErrArg}, {3, nil, long[:59] + "d", api.ErrArg},
		{3, nil, long, api.ErrFull}, {3, []string{"cccca"}, long[:55] + "cccca", api.ErrFull}, {3, nil, long[:38], api.ErrFull},
		{2, []string{"a"}, "a", api.ErrNone}, {2, []string{"bbbbb"}, strings.Repeat("b", 60), api.ErrNone}, {2, []string{"aab"}, "bbaab", api.ErrNone},
	}
	for _, c := range cases {
		if got, e := tread.Index(c.q, c.set, c.word); got != 0 || e != c.want {
			t.Errorf("Index(%d, %q, %.70q) = %d, %d, want %d", c.q, c.set, c.word, got, e, c.want)
		}
	}
}
