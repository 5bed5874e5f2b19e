package casing_test

import (
	"slices"
	"testing"

	"remould/api"
	"remould/casing"
)

// P1.6: the numbers of tables without rules.
func TestCountsWithoutRules(t *testing.T) {
	for d, want := range []int{1, 3, 13, 71, 461} {
		if n, e := casing.Count(free2, d+1); n != want || e != api.OK {
			t.Errorf("Count(%d) = %d, %d, want %d", d+1, n, e, want)
		}
		if n, e := casing.Count(free1, d+1); n != 1 || e != api.OK {
			t.Errorf("Count(%d) of one generator = %d, %d, want 1", d+1, n, e)
		}
	}
}

// P1.6: the number of an alike set is d divided by the number of sheets that leave the table as it is.
func TestAlikeSetsDivide(t *testing.T) {
	for _, group := range someGroups() {
		for d := 1; d <= api.MaxSheets; d++ {
			firsts := 0
			sizes, _ := casing.Classes(group, d)
			for _, table := range tables(t, group, d) {
				first, fixed := true, 0
				for sheet := range d {
					alike, e := casing.Renumber(table, sheet)
					if e != api.OK {
						t.Fatalf("Renumber(%v, %d): error %d", table, sheet, e)
					}
					first = first && compare(alike, table) >= 0
					if same(alike, table) {
						fixed++
					}
				}
				if !first {
					continue
				}
				if firsts >= len(sizes) || sizes[firsts]*fixed != d {
					t.Fatalf("Classes(%v, %d) = %v: set %d has %d sheets of %d fixed", group, d, sizes, firsts, fixed, d)
				}
				firsts++
			}
			if firsts != len(sizes) {
				t.Errorf("Classes(%v, %d) has %d sets, not %d", group, d, len(sizes), firsts)
			}
		}
	}
}

// P1.6: the generators of the sheet 0, and normal tables.
func TestGeneratorsAndNormalTables(t *testing.T) {
	for _, table := range standardTables(api.MaxSheets) {
		d := len(table[0])
		words, e := casing.Generators(table)
		if want := d*(len(table)-1) + 1; e != api.OK || len(words) != want {
			t.Fatalf("Generators(%v) = %q, %d, not %d words", table, words, e, want)
		}
		for _, word := range words {
			if to, e := casing.Send(table, 0, word); to != 0 || e != api.OK {
				t.Fatalf("%q sends 0 to %d, %d in %v", word, to, e, table)
			}
		}
		normal, _ := casing.Normal(table)
		if n, e := casing.Order(table); e != api.OK || normal != (n == d) {
			t.Fatalf("Order(%v) = %d, %d, and Normal is %v", table, n, e, normal)
		}
	}
}

// P1.6: the number of sheets of Meet.
func TestMeetSizes(t *testing.T) {
	for _, group := range []api.Group{free1, modular, klein, commute} {
		var all [][][]int
		for d := 1; d <= api.MaxSheets; d++ {
			all = append(all, tables(t, group, d)...)
		}
		for _, s := range all {
			if m, e := casing.Meet(s, s); e != api.OK || !same(m, s) {
				t.Fatalf("Meet of %v with itself = %v, %d", s, m, e)
			}
			for _, u := range all {
				m, e := casing.Meet(s, u)
				if e != api.OK || len(m[0]) < max(len(s[0]), len(u[0])) || len(m[0]) > len(s[0])*len(u[0]) {
					t.Fatalf("Meet(%v, %v) = %v, %d", s, u, m, e)
				}
			}
		}
	}
}

// P1.6: for one generator the tables are the divisors.
func TestTablesOfOneGenerator(t *testing.T) {
	for times := 0; times <= api.MaxWord; times++ {
		group := api.Group{Letters: 1, Rules: []string{string(slices.Repeat([]byte("A"), times))}}
		for d := 1; d <= api.MaxSheets; d++ {
			want := 0
			if times%d == 0 {
				want = 1
			}
			if n, e := casing.Count(group, d); n != want || e != api.OK {
				t.Errorf("Count of %d letters, %d sheets = %d, %d, want %d", times, d, n, e, want)
			}
		}
	}
}

// P1 and P2: the same call twice has the same result, and changes nothing that it was given.
func TestArgumentsStayAsTheyAre(t *testing.T) {
	group := api.Group{Letters: 2, Rules: []string{"aa", "bbb"}}
	s, u := [][]int{{1, 0, 2}, {0, 2, 1}}, [][]int{{0, 1}, {1, 0}}
	call := func() [][][]int {
		var all [][][]int
		list, _ := casing.Tables(group, 3)
		all = append(all, list...)
		table, _ := casing.Renumber(s, 2)
		meet, _ := casing.Meet(s, u)
		all = append(all, table, meet)
		casing.Classes(group, 3)
		casing.Count(group, 3)
		casing.Factors(group)
		casing.Keeps(group, s)
		casing.Send(s, 1, "ab")
		casing.Ways(s)
		casing.Generators(s)
		casing.Order(s)
		casing.Orders(s)
		casing.Normal(s)
		return all
	}
	first, second := call(), call()
	if !slices.EqualFunc(first, second, same) {
		t.Errorf("one call returns %v, the next one %v", first, second)
	}
	if !slices.Equal(group.Rules, []string{"aa", "bbb"}) || !same(s, [][]int{{1, 0, 2}, {0, 2, 1}}) || !same(u, [][]int{{0, 1}, {1, 0}}) {
		t.Errorf("arguments have changed: %v, %v, %v", group, s, u)
	}
}

// Rule 5: results share no memory with arguments or with each other.
func TestResultsAreNewMemory(t *testing.T) {
	check := func(name string, call func() [][]int) {
		t.Helper()
		want, spoilt := call(), call()
		for i := range spoilt {
			for j := range spoilt[i] {
				spoilt[i][j] = -1
			}
			spoilt[i] = append(spoilt[i], -1)
		}
		if got := call(); !same(got, want) {
			t.Errorf("%s = %v after a change of its result, not %v", name, got, want)
		}
	}
	s := [][]int{{1, 0}, {0, 1}}
	check("Renumber", func() [][]int { l, _ := casing.Renumber(s, 0); return l })
	check("Meet", func() [][]int { l, _ := casing.Meet(s, s); return l })
	check("Classes", func() [][]int { l, _ := casing.Classes(free2, 3); return [][]int{l} })
	list := tables(t, free2, 3)
	want := tables(t, free2, 3)
	for i := range list {
		_ = append(list[i][0], -1)
		_ = append(list[i], nil)
		list[i][0][0] = -1
		if list[i][1][0] < 0 || i+1 < len(list) && !same(list[i+1], want[i+1]) {
			t.Fatalf("tables %d share memory", i)
		}
	}
}
