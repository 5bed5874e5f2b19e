package casing_test

import (
	"slices"
	"strings"
	"testing"

	"remould/api"
	"remould/casing"
)

// notStandard returns tables that are no standard ones.
func notStandard() [][][]int {
	return [][][]int{
		{{0, 1}}, {{1, 0, 2}}, {{2, 0, 1}}, {{1, 2, 3, 0}},
		{{0, 1}, {0, 1}}, {{0, 2, 1}, {2, 1, 0}}, {{1, 0, 3, 2}, {0, 1, 2, 3}},
	}
}

// P1.3: Ways.
func TestWaysAgainstAllTables(t *testing.T) {
	for _, table := range standardTables(api.MaxSheets) {
		_, want := numberedFrom(table, 0)
		if got, e := casing.Ways(table); !slices.Equal(got, want) || e != api.OK {
			t.Fatalf("Ways(%v) = %q, %d, want %q", table, got, e, want)
		}
	}
}

func TestWaysOfExamples(t *testing.T) {
	cases := []struct {
		table [][]int
		want  []string
	}{
		{[][]int{{1, 0}, {0, 1}}, []string{"", "a"}},
		{[][]int{{0}}, []string{""}},
		{[][]int{{1, 3, 0, 4, 2}}, []string{"", "a", "A", "aa", "AA"}},
		{[][]int{{0, 1, 2}, {1, 2, 0}}, []string{"", "b", "B"}},
	}
	for _, c := range cases {
		if got, e := casing.Ways(c.table); !slices.Equal(got, c.want) || e != api.OK {
			t.Errorf("Ways(%v) = %q, %d, want %q", c.table, got, e, c.want)
		}
	}
}

// P1.3: Generators.
func TestGeneratorsAgainstAllTables(t *testing.T) {
	for _, table := range standardTables(api.MaxSheets) {
		_, ways := numberedFrom(table, 0)
		var want []string
		for sheet, way := range ways {
			for g, letter := range []string{"a", "b"}[:len(table)] {
				word := takenOut(way + letter + backwards(ways[table[g][sheet]]))
				if word != "" {
					want = append(want, word)
				}
			}
		}
		if got, e := casing.Generators(table); !slices.Equal(got, want) || e != api.OK {
			t.Fatalf("Generators(%v) = %q, %d, want %q", table, got, e, want)
		}
	}
}

func TestGeneratorsOfExamples(t *testing.T) {
	cases := []struct {
		table [][]int
		want  []string
	}{
		{[][]int{{1, 0}, {0, 1}}, []string{"b", "aa", "abA"}},
		{[][]int{{0}}, []string{"a"}},
		{[][]int{{0}, {0}}, []string{"a", "b"}},
		{[][]int{{1, 2, 0}}, []string{"aaa"}},
	}
	for _, c := range cases {
		if got, e := casing.Generators(c.table); !slices.Equal(got, c.want) || e != api.OK {
			t.Errorf("Generators(%v) = %q, %d, want %q", c.table, got, e, c.want)
		}
	}
}

// P1.3 and P3: no other standard table of as many sheets has all generators at its sheet 0.
func TestGeneratorsTellTablesApart(t *testing.T) {
	for d := 1; d <= 4; d++ {
		all := tables(t, free2, d)
		for _, table := range all {
			words, _ := casing.Generators(table)
			for _, other := range all {
				fixed := !slices.ContainsFunc(words, func(word string) bool { return moved(other, 0, word) != 0 })
				if fixed != same(table, other) {
					t.Fatalf("the generators %q of %v at the sheet 0 of %v: %v", words, table, other, fixed)
				}
			}
		}
	}
}

// P1.3: Normal.
func TestNormalAgainstAllTables(t *testing.T) {
	for _, table := range standardTables(api.MaxSheets) {
		want := true
		for sheet := range table[0] {
			want = want && same(numberedAnew(table, sheet), table)
		}
		if is, e := casing.Normal(table); is != want || e != api.OK {
			t.Fatalf("Normal(%v) = %v, %d", table, is, e)
		}
	}
}

func TestNormalOfExamples(t *testing.T) {
	if is, e := casing.Normal([][]int{{1, 0, 3, 2}, {2, 3, 0, 1}}); !is || e != api.OK {
		t.Errorf("Normal of four sheets = %v, %d", is, e)
	}
	if is, e := casing.Normal([][]int{{1, 0, 2}, {2, 1, 0}}); is || e != api.OK {
		t.Errorf("Normal of three sheets = %v, %d", is, e)
	}
}

func TestStandardTablesOnly(t *testing.T) {
	for _, table := range append(noTables(), notStandard()...) {
		if got, e := casing.Ways(table); got != nil || e != api.ErrArg {
			t.Errorf("Ways(%.100v) = %q, %d", table, got, e)
		}
		if got, e := casing.Generators(table); got != nil || e != api.ErrArg {
			t.Errorf("Generators(%.100v) = %q, %d", table, got, e)
		}
		if is, e := casing.Normal(table); is || e != api.ErrArg {
			t.Errorf("Normal(%.100v) = %v, %d", table, is, e)
		}
	}
}

// P1.3: Reduce.
func TestReduceAgainstAllWords(t *testing.T) {
	for letters := 1; letters <= 2; letters++ {
		for _, word := range wordsUpTo(letters, 7) {
			if got, e := casing.Reduce(letters, word); got != takenOut(word) || e != api.OK {
				t.Fatalf("Reduce(%d, %q) = %q, %d", letters, word, got, e)
			}
		}
	}
}

func TestReduceAtTheLimits(t *testing.T) {
	half := strings.Repeat("ab", api.MaxWord/4) + "a"
	if got, e := casing.Reduce(2, half[:api.MaxWord/2]+backwards(half[:api.MaxWord/2])); got != "" || e != api.OK {
		t.Errorf("Reduce of a word and its inverse = %q, %d", got, e)
	}
	long := strings.Repeat("aB", api.MaxWord/2)
	if got, e := casing.Reduce(2, long); got != long || e != api.OK {
		t.Errorf("Reduce of a reduced word = %q, %d", got, e)
	}
}

func TestReduceErrors(t *testing.T) {
	for _, letters := range []int{0, 3, -1, 1 << 62, -1 << 63} {
		if got, e := casing.Reduce(letters, ""); got != "" || e != api.ErrArg {
			t.Errorf("Reduce(%d) = %q, %d", letters, got, e)
		}
	}
	for _, word := range []string{"b", "B", "aAb", "c", "a A", "\xc1", "ä", strings.Repeat("a", api.MaxWord+1), strings.Repeat("aA", 100000)} {
		if got, e := casing.Reduce(1, word); got != "" || e != api.ErrArg {
			t.Errorf("Reduce(1, %.50q) = %q, %d", word, got, e)
		}
	}
	if got, e := casing.Reduce(2, "abC"); got != "" || e != api.ErrArg {
		t.Errorf("Reduce(2, abC) = %q, %d", got, e)
	}
}
