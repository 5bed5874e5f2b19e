package casing_test

import (
	"slices"
	"strings"
	"testing"

	"remould/api"
	"remould/casing"
)

// P1.1: Tables is complete, correct and in order, and Count counts it.
func TestTablesAgainstAllTables(t *testing.T) {
	for _, group := range someGroups() {
		for d := 1; d <= api.MaxSheets; d++ {
			var want [][][]int
			for _, table := range everyTable(group.Letters, d) {
				if kept(table, group.Rules) && standard(table) {
					want = append(want, table)
				}
			}
			if got := tables(t, group, d); !slices.EqualFunc(got, want, same) {
				t.Errorf("Tables(%v, %d) = %v, want %v", group, d, got, want)
			}
			if n, e := casing.Count(group, d); n != len(want) || e != api.OK {
				t.Errorf("Count(%v, %d) = %d, %d, want %d", group, d, n, e, len(want))
			}
		}
	}
}

func TestTablesOfExamples(t *testing.T) {
	want := [][][]int{{{0, 1}, {1, 0}}, {{1, 0}, {0, 1}}, {{1, 0}, {1, 0}}}
	if got := tables(t, klein, 2); !slices.EqualFunc(got, want, same) {
		t.Errorf("Tables = %v, want %v", got, want)
	}
	if got := tables(t, klein, 3); len(got) != 0 {
		t.Errorf("Tables of three sheets = %v, want none", got)
	}
	if n, e := casing.Count(klein, 4); n != 1 || e != api.OK {
		t.Errorf("Count of four sheets = %d, %d, want 1", n, e)
	}
	if got := tables(t, api.Group{Letters: 1, Rules: []string{"aaaaa"}}, 5); len(got) != 1 || !same(got[0], [][]int{{1, 3, 0, 4, 2}}) {
		t.Errorf("Tables of a round of five = %v", got)
	}
}

func TestTablesAtTheLimits(t *testing.T) {
	rule := strings.Repeat("a", api.MaxWord)
	group := api.Group{Letters: 1, Rules: slices.Repeat([]string{rule}, api.MaxRules)}
	for d, want := range []int{1, 1, 1, 0, 1} {
		if n, e := casing.Count(group, d+1); n != want || e != api.OK {
			t.Errorf("Count(%d) = %d, %d, want %d", d+1, n, e, want)
		}
	}
}

// P1.1: Classes follows the first table of each set of alike ones.
func TestClassesAgainstAlikeTables(t *testing.T) {
	for _, group := range someGroups() {
		for d := 1; d <= api.MaxSheets; d++ {
			var want []int
			var seen [][][]int
			for _, table := range tables(t, group, d) {
				if slices.ContainsFunc(seen, func(s [][]int) bool { return same(s, table) }) {
					continue
				}
				before := len(seen)
				for sheet := range d {
					alike := numberedAnew(table, sheet)
					if !slices.ContainsFunc(seen, func(s [][]int) bool { return same(s, alike) }) {
						seen = append(seen, alike)
					}
				}
				want = append(want, len(seen)-before)
			}
			if got, e := casing.Classes(group, d); !slices.Equal(got, want) || e != api.OK {
				t.Errorf("Classes(%v, %d) = %v, %d, want %v", group, d, got, e, want)
			}
		}
	}
}

func TestClassesOfExamples(t *testing.T) {
	if got, e := casing.Classes(free2, 2); !slices.Equal(got, []int{1, 1, 1}) || e != api.OK {
		t.Errorf("Classes of two sheets = %v, %d", got, e)
	}
	if got, e := casing.Classes(free2, 3); !slices.Equal(got, []int{1, 3, 3, 1, 3, 1, 1}) || e != api.OK {
		t.Errorf("Classes of three sheets = %v, %d", got, e)
	}
	if got, e := casing.Classes(klein, 3); len(got) != 0 || e != api.OK {
		t.Errorf("Classes without tables = %v, %d", got, e)
	}
}

func TestTablesErrors(t *testing.T) {
	check := func(group api.Group, d int) {
		t.Helper()
		if l, e := casing.Tables(group, d); e != api.ErrArg || l != nil {
			t.Errorf("Tables(%.100v, %d) = %v, %d", group, d, l, e)
		}
		if n, e := casing.Count(group, d); e != api.ErrArg || n != 0 {
			t.Errorf("Count(%.100v, %d) = %d, %d", group, d, n, e)
		}
		if l, e := casing.Classes(group, d); e != api.ErrArg || l != nil {
			t.Errorf("Classes(%.100v, %d) = %v, %d", group, d, l, e)
		}
	}
	for _, group := range noGroups() {
		check(group, 1)
		check(group, api.MaxSheets)
	}
	for _, d := range []int{0, -1, api.MaxSheets + 1, 1 << 62, -1 << 63} {
		check(free1, d)
		check(klein, d)
	}
}
