package casing_test

import (
	"slices"
	"strings"
	"testing"

	"remould/api"
	"remould/casing"
)

// P1.2: Keeps.
func TestKeepsAgainstAllTables(t *testing.T) {
	for _, group := range someGroups() {
		for letters := 1; letters <= 2; letters++ {
			for d := 1; d <= 4; d++ {
				for _, table := range everyTable(letters, d) {
					want := letters == group.Letters && kept(table, group.Rules)
					if is, e := casing.Keeps(group, table); is != want || e != api.OK {
						t.Fatalf("Keeps(%v, %v) = %v, %d", group, table, is, e)
					}
				}
			}
		}
	}
}

func TestKeepsOfTablesThatAreNotStandard(t *testing.T) {
	if is, e := casing.Keeps(klein, [][]int{{1, 0, 2, 3, 4}, {0, 1, 3, 2, 4}}); !is || e != api.OK {
		t.Errorf("a table that is not connected: %v, %d", is, e)
	}
	if is, e := casing.Keeps(free1, [][]int{{2, 0, 1}}); !is || e != api.OK {
		t.Errorf("a table that is not standard: %v, %d", is, e)
	}
}

// P1.2: the rule must bring every sheet back, the sheet 0 is not enough.
func TestKeepsLooksAtEverySheet(t *testing.T) {
	if is, e := casing.Keeps(api.Group{Letters: 1, Rules: []string{"aa"}}, [][]int{{0, 2, 3, 1}}); is || e != api.OK {
		t.Errorf("Keeps = %v, %d", is, e)
	}
}

func TestKeepsErrors(t *testing.T) {
	for _, table := range noTables() {
		if is, e := casing.Keeps(free2, table); is || e != api.ErrArg {
			t.Errorf("Keeps(%.100v) = %v, %d", table, is, e)
		}
	}
	for _, group := range noGroups() {
		for _, table := range [][][]int{{{0}}, {{0}, {0}}} {
			if is, e := casing.Keeps(group, table); is || e != api.ErrArg {
				t.Errorf("Keeps(%.100v, %v) = %v, %d", group, table, is, e)
			}
		}
	}
}

// P1.2: Send.
func TestSendAgainstAllWords(t *testing.T) {
	for letters := 1; letters <= 2; letters++ {
		for _, table := range everyTable(letters, 3) {
			for _, word := range wordsUpTo(letters, 4) {
				for sheet := range 3 {
					if to, e := casing.Send(table, sheet, word); to != moved(table, sheet, word) || e != api.OK {
						t.Fatalf("Send(%v, %d, %q) = %d, %d", table, sheet, word, to, e)
					}
				}
			}
		}
	}
}

func TestSendAtTheLimits(t *testing.T) {
	around := [][]int{{1, 2, 3, 4, 0}}
	if to, e := casing.Send(around, 4, strings.Repeat("a", api.MaxWord-1)); to != 3 || e != api.OK {
		t.Errorf("Send = %d, %d, want 3", to, e)
	}
	if to, e := casing.Send(around, 4, strings.Repeat("A", api.MaxWord)); to != 4 || e != api.OK {
		t.Errorf("Send = %d, %d, want 4", to, e)
	}
	if to, e := casing.Send(around, 4, "aA"); to != 4 || e != api.OK {
		t.Errorf("Send of a word that is not reduced = %d, %d, want 4", to, e)
	}
}

func TestSendErrors(t *testing.T) {
	for _, table := range noTables() {
		if to, e := casing.Send(table, 0, ""); to != 0 || e != api.ErrArg {
			t.Errorf("Send(%.100v) = %d, %d", table, to, e)
		}
	}
	one, two := [][]int{{1, 0}}, [][]int{{1, 0}, {0, 1}}
	for _, sheet := range []int{-1, 2, 1 << 62, -1 << 63} {
		if to, e := casing.Send(two, sheet, "a"); to != 0 || e != api.ErrArg {
			t.Errorf("Send from sheet %d = %d, %d", sheet, to, e)
		}
	}
	for _, word := range []string{"b", "aB", "c", "a ", "\x00", "é", strings.Repeat("a", api.MaxWord+1)} {
		if to, e := casing.Send(one, 0, word); to != 0 || e != api.ErrArg {
			t.Errorf("Send of %q = %d, %d", word, to, e)
		}
	}
	if to, e := casing.Send(two, 0, strings.Repeat("ab", 100000)); to != 0 || e != api.ErrArg {
		t.Errorf("Send of a long word = %d, %d", to, e)
	}
}

// P1.2: Renumber.
func TestRenumberAgainstAllTables(t *testing.T) {
	for letters := 1; letters <= 2; letters++ {
		for d := 1; d <= 4; d++ {
			for _, table := range everyTable(letters, d) {
				for sheet := range d {
					got, e := casing.Renumber(table, sheet)
					switch {
					case !connected(table) && (e != api.ErrArg || got != nil):
						t.Fatalf("Renumber(%v, %d) = %v, %d: it is not connected", table, sheet, got, e)
					case connected(table) && (e != api.OK || !same(got, numberedAnew(table, sheet))):
						t.Fatalf("Renumber(%v, %d) = %v, %d", table, sheet, got, e)
					}
				}
			}
		}
	}
}

func TestRenumberOfFiveSheets(t *testing.T) {
	if got, e := casing.Renumber([][]int{{4, 0, 1, 2, 3}}, 3); !same(got, [][]int{{1, 3, 0, 4, 2}}) || e != api.OK {
		t.Errorf("Renumber = %v, %d", got, e)
	}
}

func TestRenumberErrors(t *testing.T) {
	for _, table := range noTables() {
		if got, e := casing.Renumber(table, 0); got != nil || e != api.ErrArg {
			t.Errorf("Renumber(%.100v) = %v, %d", table, got, e)
		}
	}
	for _, sheet := range []int{-1, 2, 1 << 62, -1 << 63} {
		if got, e := casing.Renumber([][]int{{1, 0}}, sheet); got != nil || e != api.ErrArg {
			t.Errorf("Renumber from %d = %v, %d", sheet, got, e)
		}
	}
}

// P1.2: Orders.
func TestOrdersAgainstAllTables(t *testing.T) {
	for letters := 1; letters <= 2; letters++ {
		for d := 1; d <= api.MaxSheets; d++ {
			for _, table := range everyTable(letters, d) {
				var want []int
				for _, letter := range []string{"a", "b"}[:letters] {
					times := 1
					for !kept(table, []string{strings.Repeat(letter, times)}) {
						times++
					}
					want = append(want, times)
				}
				if got, e := casing.Orders(table); !slices.Equal(got, want) || e != api.OK {
					t.Fatalf("Orders(%v) = %v, %d, want %v", table, got, e, want)
				}
			}
		}
	}
}

func TestOrdersOfExamples(t *testing.T) {
	if got, e := casing.Orders([][]int{{1, 0, 3, 4, 2}, {0, 1, 2, 3, 4}}); !slices.Equal(got, []int{6, 1}) || e != api.OK {
		t.Errorf("Orders = %v, %d, want 6 1", got, e)
	}
	for _, table := range noTables() {
		if got, e := casing.Orders(table); got != nil || e != api.ErrArg {
			t.Errorf("Orders(%.100v) = %v, %d", table, got, e)
		}
	}
}
