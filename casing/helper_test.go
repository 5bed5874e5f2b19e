package casing_test

import (
	"slices"
	"strings"
	"testing"

	"remould/api"
	"remould/casing"
)

// The helpers below follow the chapter word by word, without any code of the package, so that the tests compare two ways to the same result.

var (
	free1   = api.Group{Letters: 1}
	free2   = api.Group{Letters: 2}
	klein   = api.Group{Letters: 2, Rules: []string{"aa", "bb", "abab"}}
	triples = api.Group{Letters: 2, Rules: []string{"aa", "bb", "ababab"}}
	modular = api.Group{Letters: 2, Rules: []string{"aa", "bbb"}}
	commute = api.Group{Letters: 2, Rules: []string{"abAB"}}
	trivial = api.Group{Letters: 2, Rules: []string{"a", "b"}}
)

func someGroups() []api.Group {
	return []api.Group{
		free1, free2, klein, triples, modular, commute, trivial,
		{Letters: 1, Rules: []string{"aaaaaa"}},
		{Letters: 1, Rules: []string{"aaaa", "AAAAAA"}},
		{Letters: 1, Rules: []string{""}},
		{Letters: 2, Rules: []string{"", "aaBB"}},
		{Letters: 2, Rules: []string{"abaBAB"}},
		{Letters: 2, Rules: []string{"aaaaa", "bb", "ababab"}},
		{Letters: 2, Rules: []string{"aA", "aaa", "aaa"}},
	}
}

func same(s, t [][]int) bool { return slices.EqualFunc(s, t, slices.Equal[[]int]) }

func compare(s, t [][]int) int { return slices.CompareFunc(s, t, slices.Compare[[]int]) }

// lists returns all lists of the numbers 0 to d - 1, in lexicographic order.
func lists(d int) [][]int {
	all := [][]int{nil}
	for range d {
		var longer [][]int
		for _, list := range all {
			for next := range d {
				if !slices.Contains(list, next) {
					longer = append(longer, append(slices.Clone(list), next))
				}
			}
		}
		all = longer
	}
	return all
}

// everyTable returns all tables, connected or not, in lexicographic order.
func everyTable(letters, d int) [][][]int {
	all := [][][]int{nil}
	for range letters {
		var wider [][][]int
		for _, table := range all {
			for _, list := range lists(d) {
				wider = append(wider, append(slices.Clone(table), list))
			}
		}
		all = wider
	}
	return all
}

func moved(table [][]int, sheet int, word string) int {
	for _, letter := range []byte(word) {
		switch letter {
		case 'a':
			sheet = table[0][sheet]
		case 'A':
			sheet = slices.Index(table[0], sheet)
		case 'b':
			sheet = table[1][sheet]
		case 'B':
			sheet = slices.Index(table[1], sheet)
		}
	}
	return sheet
}

func kept(table [][]int, rules []string) bool {
	for _, rule := range rules {
		for sheet := range table[0] {
			if moved(table, sheet, rule) != sheet {
				return false
			}
		}
	}
	return true
}

// numberedFrom returns the sheets that words reach from one, in the order of their numbers, and the ways to them.
func numberedFrom(table [][]int, start int) ([]int, []string) {
	sheets, ways := []int{start}, []string{""}
	for at := 0; at < len(sheets); at++ {
		for _, letter := range []string{"a", "A", "b", "B"}[:2*len(table)] {
			next := moved(table, sheets[at], letter)
			if !slices.Contains(sheets, next) {
				sheets, ways = append(sheets, next), append(ways, ways[at]+letter)
			}
		}
	}
	return sheets, ways
}

func connected(table [][]int) bool {
	sheets, _ := numberedFrom(table, 0)
	return len(sheets) == len(table[0])
}

func standard(table [][]int) bool {
	sheets, _ := numberedFrom(table, 0)
	return connected(table) && slices.IsSorted(sheets)
}

func numberedAnew(table [][]int, start int) [][]int {
	sheets, _ := numberedFrom(table, start)
	anew := make([][]int, len(table))
	for g, column := range table {
		for _, sheet := range sheets {
			anew[g] = append(anew[g], slices.Index(sheets, column[sheet]))
		}
	}
	return anew
}

func backwards(word string) string {
	turned := []byte(word)
	slices.Reverse(turned)
	for i, letter := range turned {
		turned[i] = strings.ToLower(string(letter))[0]
		if letter == turned[i] {
			turned[i] = strings.ToUpper(string(letter))[0]
		}
	}
	return string(turned)
}

func takenOut(word string) string {
	for {
		shorter := word
		for _, pair := range []string{"aA", "Aa", "bB", "Bb"} {
			shorter = strings.Replace(shorter, pair, "", 1)
		}
		if shorter == word {
			return word
		}
		word = shorter
	}
}

// wordsUpTo returns all words of at most so many letters, reduced or not.
func wordsUpTo(letters, length int) []string {
	all, last := []string{""}, []string{""}
	for range length {
		var longer []string
		for _, word := range last {
			for _, letter := range []string{"a", "A", "b", "B"}[:2*letters] {
				longer = append(longer, word+letter)
			}
		}
		all, last = append(all, longer...), longer
	}
	return all
}

// tables returns what Tables returns where it must not fail.
func tables(t *testing.T, group api.Group, d int) [][][]int {
	t.Helper()
	list, e := casing.Tables(group, d)
	if e != api.OK {
		t.Fatalf("Tables(%v, %d): error %d", group, d, e)
	}
	return list
}

// standardTables returns all standard tables with at most so many sheets.
func standardTables(most int) [][][]int {
	var all [][][]int
	for letters := 1; letters <= 2; letters++ {
		for d := 1; d <= most; d++ {
			for _, table := range everyTable(letters, d) {
				if standard(table) {
					all = append(all, table)
				}
			}
		}
	}
	return all
}

// noTables returns what is no table at all.
func noTables() [][][]int {
	return [][][]int{
		nil, {}, {nil}, {{}}, {nil, nil}, {{}, {}},
		{{1}}, {{-1}}, {{0, 0}}, {{0, 2}}, {{1, -1}}, {{0, 1, 1}},
		{{0}, nil}, {nil, {0}}, {{0, 1}, {0}}, {{0}, {0, 1}}, {{0, 1}, {1, 1}}, {{0, 1}, {0, 2}},
		{{0}, {0}, {0}},
		{{1, 2, 3, 4, 5, 0}}, {{1, 2, 3, 4, 5, 0}, {0, 1, 2, 3, 4, 5}},
		{{1 << 62, -1 << 63}},
		make([][]int, 100000), {make([]int, 100000)},
	}
}

// noGroups returns what is no presentation.
func noGroups() []api.Group {
	long := strings.Repeat("a", api.MaxWord+1)
	return []api.Group{
		{}, {Letters: -1}, {Letters: 3}, {Letters: 1 << 62}, {Letters: -1 << 63},
		{Letters: 1, Rules: []string{"b"}}, {Letters: 1, Rules: []string{"aB"}},
		{Letters: 2, Rules: []string{"aa", "c"}}, {Letters: 2, Rules: []string{"a b"}},
		{Letters: 2, Rules: []string{"ab\x00"}}, {Letters: 2, Rules: []string{"\xc1"}},
		{Letters: 2, Rules: []string{long}}, {Letters: 1, Rules: []string{"", long}},
		{Letters: 2, Rules: make([]string, api.MaxRules+1)},
		{Letters: 2, Rules: []string{strings.Repeat("ab", 100000)}},
	}
}
