// Package casing is layer 1: subgroups of small index of a group that is given by generators and relations, as tables. See shared/doc/01-casing.md.
package casing

import "remould/api"

// Tables returns all standard tables with d sheets that keep the presentation, in lexicographic order.
func Tables(group api.Group, d int) ([][][]int, api.Errno) {
	if !isGroup(group) || !isSheets(d) {
		return nil, api.ErrArg
	}
	var tables [][][]int
	for w := range windings(group, d) {
		tables = append(tables, w.columns())
	}
	return tables, api.OK
}

// Count returns the number of the standard tables with d sheets that keep the presentation.
func Count(group api.Group, d int) (int, api.Errno) {
	if !isGroup(group) || !isSheets(d) {
		return 0, api.ErrArg
	}
	count := 0
	for range windings(group, d) {
		count++
	}
	return count, api.OK
}

// Classes returns the sizes of the sets of alike tables, in the order of the first table of each in Tables.
func Classes(group api.Group, d int) ([]int, api.Errno) {
	if !isGroup(group) || !isSheets(d) {
		return nil, api.ErrArg
	}
	var sizes []int
	counted := map[moves]bool{}
	for w := range windings(group, d) {
		if counted[w.moves] {
			continue
		}
		size := 0
		for sheet := range w.sheets {
			if alike := w.anew(sheet).moves; !counted[alike] {
				counted[alike] = true
				size++
			}
		}
		sizes = append(sizes, size)
	}
	return sizes, api.OK
}

// Keeps reports whether the table keeps the presentation.
func Keeps(group api.Group, table [][]int) (bool, api.Errno) {
	w, ok := wind(table)
	if !isGroup(group) || !ok {
		return false, api.ErrArg
	}
	return w.letters == group.Letters && w.keeps(group.Rules), api.OK
}

// Send returns the sheet to which the word sends the sheet.
func Send(table [][]int, sheet int, word string) (int, api.Errno) {
	w, ok := wind(table)
	if !ok || !w.has(sheet) || !isWord(w.letters, word) {
		return 0, api.ErrArg
	}
	return w.send(sheet, word), api.OK
}

// Renumber returns the connected table, numbered anew from the sheet.
func Renumber(table [][]int, sheet int) ([][]int, api.Errno) {
	w, ok := wind(table)
	if !ok || !w.isConnected() || !w.has(sheet) {
		return nil, api.ErrArg
	}
	return w.anew(sheet).columns(), api.OK
}

// Ways returns the ways to all sheets of the standard table.
func Ways(table [][]int) ([]string, api.Errno) {
	w, ok := wind(table)
	if !ok || !w.isStandard() {
		return nil, api.ErrArg
	}
	return w.ways(), api.OK
}

// Generators returns the generators of the sheet 0 of the standard table.
func Generators(table [][]int) ([]string, api.Errno) {
	w, ok := wind(table)
	if !ok || !w.isStandard() {
		return nil, api.ErrArg
	}
	var words []string
	ways := w.ways()
	for sheet := range w.sheets {
		for letter := 0; letter < 2*w.letters; letter += 2 {
			to := w.step(sheet, letter)
			word := reduced(ways[sheet], letterNames[letter:letter+1], inverse(ways[to]))
			if word != "" {
				words = append(words, word)
			}
		}
	}
	return words, api.OK
}

// Order returns the number of different ways in which words send the sheets.
func Order(table [][]int) (int, api.Errno) {
	w, ok := wind(table)
	if !ok {
		return 0, api.ErrArg
	}
	return w.order(), api.OK
}

// Normal reports whether no other standard table is alike to the standard table.
func Normal(table [][]int) (bool, api.Errno) {
	w, ok := wind(table)
	if !ok || !w.isStandard() {
		return false, api.ErrArg
	}
	for sheet := range w.sheets {
		if w.anew(sheet).moves != w.moves {
			return false, api.OK
		}
	}
	return true, api.OK
}

// Meet returns the standard table of the pairs of sheets that arise from the pair of both sheets 0.
func Meet(s, t [][]int) ([][]int, api.Errno) {
	v, okS := wind(s)
	w, okT := wind(t)
	if !okS || !okT || !v.isStandard() || !w.isStandard() || v.letters != w.letters {
		return nil, api.ErrArg
	}
	step := func(pair, letter int) int {
		first := v.step(pair/api.MaxSheets, letter)
		second := w.step(pair%api.MaxSheets, letter)
		return first*api.MaxSheets + second
	}
	return renumbered(0, v.letters, step), api.OK
}

// Reduce returns the reduced word, for words of one or two letters.
func Reduce(letters int, word string) (string, api.Errno) {
	if !isLetters(letters) || !isWord(letters, word) {
		return "", api.ErrArg
	}
	return reduced(word), api.OK
}

// Orders returns, for each generator, the smallest number of times that brings every sheet back.
func Orders(table [][]int) ([]int, api.Errno) {
	w, ok := wind(table)
	if !ok {
		return nil, api.ErrArg
	}
	var orders []int
	for generator := range w.letters {
		orders = append(orders, w.times(2*generator))
	}
	return orders, api.OK
}
