package casing_test

import (
	"slices"
	"strings"
	"testing"

	"remould/api"
	"remould/casing"
)

// sentTogether returns how a word sends all sheets, as one text.
func sentTogether(table [][]int, word string) string {
	sent := make([]byte, len(table[0]))
	for sheet := range sent {
		sent[sheet] = byte('0' + moved(table, sheet, word))
	}
	return string(sent)
}

// P1.4: Order, by ever longer words, until none of one length sends the sheets in a new way.
func TestOrderAgainstWords(t *testing.T) {
	for letters := 1; letters <= 2; letters++ {
		for d := 1; d <= 4; d++ {
			for _, table := range everyTable(letters, d) {
				seen := map[string]bool{sentTogether(table, ""): true}
				for last := []string{""}; len(last) > 0; {
					var longer []string
					for _, word := range last {
						for _, letter := range []string{"a", "A", "b", "B"}[:2*letters] {
							if way := sentTogether(table, word+letter); !seen[way] {
								seen[way] = true
								longer = append(longer, word+letter)
							}
						}
					}
					last = longer
				}
				if n, e := casing.Order(table); n != len(seen) || e != api.OK {
					t.Fatalf("Order(%v) = %d, %d, want %d", table, n, e, len(seen))
				}
			}
		}
	}
}

func TestOrderOfExamples(t *testing.T) {
	cases := []struct {
		table [][]int
		want  int
	}{
		{[][]int{{0}}, 1},
		{[][]int{{0, 1, 2, 3, 4}, {0, 1, 2, 3, 4}}, 1},
		{[][]int{{1, 2, 3, 4, 0}}, 5},
		{[][]int{{1, 0, 3, 4, 2}}, 6},
		{[][]int{{1, 2, 3, 4, 0}, {1, 0, 2, 3, 4}}, 120},
		{[][]int{{1, 2, 3, 4, 0}, {1, 2, 0, 3, 4}}, 60},
		{[][]int{{1, 2, 3, 4, 0}, {0, 2, 4, 1, 3}}, 20},
		{[][]int{{1, 2, 3, 4, 0}, {0, 4, 3, 2, 1}}, 10},
		{[][]int{{1, 0, 2, 3, 4}, {0, 1, 3, 2, 4}}, 4},
	}
	for _, c := range cases {
		if n, e := casing.Order(c.table); n != c.want || e != api.OK {
			t.Errorf("Order(%v) = %d, %d, want %d", c.table, n, e, c.want)
		}
	}
	for _, table := range noTables() {
		if n, e := casing.Order(table); n != 0 || e != api.ErrArg {
			t.Errorf("Order(%.100v) = %d, %d", table, n, e)
		}
	}
}

// pairs returns the table of all pairs of sheets, those that do not arise from the first one among them.
func pairs(s, t [][]int) [][]int {
	both := make([][]int, len(s))
	for g := range s {
		for _, i := range s[g] {
			for _, j := range t[g] {
				both[g] = append(both[g], i*len(t[0])+j)
			}
		}
	}
	return both
}

// P1.4: Meet.
func TestMeetAgainstAllPairs(t *testing.T) {
	all := standardTables(3)
	for _, s := range all {
		for _, u := range all {
			got, e := casing.Meet(s, u)
			switch {
			case len(s) != len(u) && (got != nil || e != api.ErrArg):
				t.Fatalf("Meet(%v, %v) = %v, %d: other columns", s, u, got, e)
			case len(s) == len(u) && (e != api.OK || !same(got, numberedAnew(pairs(s, u), 0))):
				t.Fatalf("Meet(%v, %v) = %v, %d", s, u, got, e)
			}
		}
	}
}

func TestMeetOfManySheets(t *testing.T) {
	around, still := []int{1, 3, 0, 4, 2}, []int{0, 1, 2, 3, 4}
	s, u := [][]int{around, still}, [][]int{still, around}
	got, e := casing.Meet(s, u)
	if e != api.OK || !same(got, numberedAnew(pairs(s, u), 0)) || len(got[0]) != 25 {
		t.Errorf("Meet = %v, %d", got, e)
	}
	if _, e := casing.Ways(got); e != api.ErrArg {
		t.Errorf("Ways of a table with too many sheets: %d", e)
	}
}

func TestMeetOfTablesAtTheLimits(t *testing.T) {
	all := tables(t, modular, 5)
	all = append(all, tables(t, commute, 5)...)
	all = append(all, tables(t, modular, 4)...)
	for _, s := range all {
		for _, u := range all {
			if got, e := casing.Meet(s, u); e != api.OK || !same(got, numberedAnew(pairs(s, u), 0)) {
				t.Fatalf("Meet(%v, %v) = %v, %d", s, u, got, e)
			}
		}
	}
}

func TestMeetErrors(t *testing.T) {
	one, two := [][]int{{1, 0}}, [][]int{{1, 0}, {0, 1}}
	for _, table := range append(noTables(), notStandard()...) {
		for _, good := range [][][]int{one, two} {
			if got, e := casing.Meet(table, good); got != nil || e != api.ErrArg {
				t.Errorf("Meet(%.100v, %v) = %v, %d", table, good, got, e)
			}
			if got, e := casing.Meet(good, table); got != nil || e != api.ErrArg {
				t.Errorf("Meet(%v, %.100v) = %v, %d", good, table, got, e)
			}
		}
	}
}

// P1.5: the number of ways to send the generators to remainders modulo n, so that all rules become 0, tells the factors.
func TestFactorsAgainstRemainders(t *testing.T) {
	for _, group := range factorGroups() {
		factors, infinite, e := casing.Factors(group)
		if e != api.OK {
			t.Fatalf("Factors(%v): error %d", group, e)
		}
		for i, factor := range factors {
			if factor < 2 || i > 0 && factor%factors[i-1] != 0 {
				t.Fatalf("Factors(%v) = %v: none below 2, and each divides the next one", group, factors)
			}
		}
		for n := 1; n <= 130; n++ {
			want := 1
			for range infinite {
				want *= n
			}
			for _, factor := range factors {
				want *= sharedDivisor(factor, n)
			}
			if got := solutions(group, n); got != want {
				t.Fatalf("Factors(%v) = %v, %d: there are %d solutions modulo %d, not %d", group, factors, infinite, got, n, want)
			}
		}
	}
}

func factorGroups() []api.Group {
	power := func(letter string, times int) string { return strings.Repeat(letter, times) }
	groups := someGroups()
	for _, rules := range [][]string{
		{"aaaa", "aabb"}, {"aaBB"}, {"aab", "abb"}, {"AAB", "BBA"}, {"aaaabb", "AAbbbb"},
		{power("a", 12), power("b", 8)}, {power("a", 11) + power("b", 7), power("A", 5) + power("b", 3)},
		{power("a", 6) + power("b", 10), power("a", 10) + power("b", 6), power("a", 4)},
		{"abAB", "aabb", "aaaabbbb"}, {"aabb", "AABB", "aaabbb"}, {"b", "b"}, {"bbb"},
		{power("a", 10), power("b", 12), "aaaaBBBBBB"}, {"ab", "aB"}, {"aA"},
	} {
		groups = append(groups, api.Group{Letters: 2, Rules: rules})
	}
	return append(groups, api.Group{Letters: 1, Rules: []string{"AAAA", "aaaaaa", "aA"}})
}

func sharedDivisor(x, y int) int {
	shared := 1
	for k := 1; k <= y; k++ {
		if x%k == 0 && y%k == 0 {
			shared = k
		}
	}
	return shared
}

func solutions(group api.Group, n int) int {
	count := 0
	most := 1
	if group.Letters == 2 {
		most = n
	}
	for x := range n {
		for y := range most {
			if !slices.ContainsFunc(group.Rules, func(rule string) bool { return weighed(rule, x, y)%n != 0 }) {
				count++
			}
		}
	}
	return count
}

func weighed(rule string, x, y int) int {
	return x*(strings.Count(rule, "a")-strings.Count(rule, "A")) + y*(strings.Count(rule, "b")-strings.Count(rule, "B"))
}

func TestFactorsOfExamples(t *testing.T) {
	cases := []struct {
		group    api.Group
		factors  []int
		infinite int
	}{
		{api.Group{Letters: 2, Rules: []string{"aaaa", "aabb"}}, []int{2, 4}, 0},
		{api.Group{Letters: 2, Rules: []string{"aabb", "aaaa"}}, []int{2, 4}, 0},
		{free1, nil, 1},
		{free2, nil, 2},
		{commute, nil, 2},
		{trivial, nil, 0},
		{klein, []int{2, 2}, 0},
		{modular, []int{6}, 0},
		{api.Group{Letters: 2, Rules: []string{"ab"}}, nil, 1},
		{api.Group{Letters: 2, Rules: []string{"bbb"}}, []int{3}, 1},
		{api.Group{Letters: 1, Rules: []string{"AAA"}}, []int{3}, 0},
		{api.Group{Letters: 1, Rules: []string{"a"}}, nil, 0},
		{api.Group{Letters: 1, Rules: []string{"aA"}}, nil, 1},
	}
	for _, c := range cases {
		factors, infinite, e := casing.Factors(c.group)
		if !slices.Equal(factors, c.factors) || infinite != c.infinite || e != api.OK {
			t.Errorf("Factors(%v) = %v, %d, %d, want %v, %d", c.group, factors, infinite, e, c.factors, c.infinite)
		}
	}
	for _, group := range noGroups() {
		if factors, infinite, e := casing.Factors(group); factors != nil || infinite != 0 || e != api.ErrArg {
			t.Errorf("Factors(%.100v) = %v, %d, %d", group, factors, infinite, e)
		}
	}
}
