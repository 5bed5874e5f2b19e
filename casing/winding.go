package casing

import (
	"strings"

	"remould/api"
)

// row says where a letter sends each sheet.
type row [api.MaxSheets]int

// moves has a row for each letter in the order of letterNames. What lies outside of the table is zero, so that equal tables of one size are equal arrays.
type moves [len(letterNames)]row

// winding is a table with its inverses.
type winding struct {
	letters, sheets int
	moves           moves
}

// wind reads a table, and reports whether it is one.
func wind(table [][]int) (winding, bool) {
	if !isLetters(len(table)) || !isSheets(len(table[0])) {
		return winding{}, false
	}
	w := winding{letters: len(table), sheets: len(table[0])}
	for generator, column := range table {
		if !w.isColumn(column) {
			return winding{}, false
		}
		w.lay(generator, column)
	}
	return w, true
}

func (w winding) isColumn(column []int) bool {
	if len(column) != w.sheets {
		return false
	}
	var taken [api.MaxSheets]bool
	for _, sheet := range column {
		if !w.has(sheet) || taken[sheet] {
			return false
		}
		taken[sheet] = true
	}
	return true
}

// lay sets what a generator and its inverse do.
func (w *winding) lay(generator int, column []int) {
	for from, to := range column {
		w.moves[2*generator][from] = to
		w.moves[2*generator+1][to] = from
	}
}

func (w winding) has(sheet int) bool { return 0 <= sheet && sheet < w.sheets }

func (w winding) step(sheet, letter int) int { return w.moves[letter][sheet] }

func (w winding) send(sheet int, word string) int {
	for i := range len(word) {
		sheet = w.step(sheet, strings.IndexByte(letterNames, word[i]))
	}
	return sheet
}

func (w winding) keeps(rules []string) bool {
	for _, rule := range rules {
		for sheet := range w.sheets {
			if w.send(sheet, rule) != sheet {
				return false
			}
		}
	}
	return true
}

// columns returns the table in new memory.
func (w winding) columns() [][]int {
	table := make([][]int, w.letters)
	for generator := range table {
		table[generator] = append([]int(nil), w.moves[2*generator][:w.sheets]...)
	}
	return table
}

// identity is the row that sends every sheet to itself.
func (w winding) identity() row {
	var same row
	for sheet := range w.sheets {
		same[sheet] = sheet
	}
	return same
}

// after returns the row that does what done does, and then what the letter does.
func (w winding) after(done row, letter int) row {
	var next row
	for sheet := range w.sheets {
		next[sheet] = w.step(done[sheet], letter)
	}
	return next
}

// order needs no inverses of generators: the inverse of a row is one of its powers.
func (w winding) order() int {
	rows := []row{w.identity()}
	known := map[row]bool{rows[0]: true}
	for at := 0; at < len(rows); at++ {
		for generator := range w.letters {
			next := w.after(rows[at], 2*generator)
			if !known[next] {
				known[next] = true
				rows = append(rows, next)
			}
		}
	}
	return len(rows)
}

// times returns how often a letter must be applied, at least once, to send every sheet to itself.
func (w winding) times(letter int) int {
	times := 1
	for done := w.moves[letter]; done != w.identity(); done = w.after(done, letter) {
		times++
	}
	return times
}
