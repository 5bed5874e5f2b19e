package casing

import "remould/api"

// maxPairs bounds the numbers of sheets, and of pairs of sheets too.
const maxPairs = api.MaxSheets * api.MaxSheets

// found is a sheet with the new number of the sheet from which it was found, and the letter that led to it.
type found struct {
	sheet, from, letter int
}

// number finds all sheets that step reaches from start, in the order of their new numbers.
func number(start, letters int, step func(sheet, letter int) int) []found {
	list := make([]found, 1, api.MaxSheets)
	list[0].sheet = start
	var known [maxPairs]bool
	known[start] = true
	for at := 0; at < len(list); at++ {
		for letter := range 2 * letters {
			next := step(list[at].sheet, letter)
			if !known[next] {
				known[next] = true
				list = append(list, found{sheet: next, from: at, letter: letter})
			}
		}
	}
	return list
}

// renumbered returns the table of all sheets that step reaches from start, by their new numbers.
func renumbered(start, letters int, step func(sheet, letter int) int) [][]int {
	list := number(start, letters, step)
	var numbers [maxPairs]int
	for n, f := range list {
		numbers[f.sheet] = n
	}
	table := make([][]int, letters)
	for generator := range table {
		for _, f := range list {
			to := step(f.sheet, 2*generator)
			table[generator] = append(table[generator], numbers[to])
		}
	}
	return table
}

// anew returns a connected winding, numbered anew from the sheet.
func (w winding) anew(sheet int) winding {
	turned, _ := wind(renumbered(sheet, w.letters, w.step))
	return turned
}

func (w winding) isConnected() bool {
	return len(number(0, w.letters, w.step)) == w.sheets
}

func (w winding) isStandard() bool {
	list := number(0, w.letters, w.step)
	for n, f := range list {
		if f.sheet != n {
			return false
		}
	}
	return len(list) == w.sheets
}

// ways returns the ways to all sheets of a standard winding.
func (w winding) ways() []string {
	ways := make([]string, w.sheets)
	for n, f := range number(0, w.letters, w.step)[1:] {
		ways[n+1] = ways[f.from] + letterNames[f.letter:f.letter+1]
	}
	return ways
}
