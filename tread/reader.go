package tread

import (
	"iter"
	"slices"
	"strings"

	"remould/api"
)

// stop stands in place of an end where a pattern occurs.
const stop = -1

// reader reads words that avoid a set. All that it has to know of a word is its end: the longest one with which a pattern begins. The ends have numbers, and the empty one, from which every word starts, is 0.
type reader struct {
	letters int
	next    [][api.MaxLetters]int
}

func newReader(q int, set []string) reader {
	r := reader{letters: q}
	ends := []string{""}
	numbers := map[string]int{"": 0}
	for at := 0; at < len(ends); at++ {
		var row [api.MaxLetters]int
		for i := range q {
			word := ends[at] + letterNames[i:i+1]
			if endsWithPattern(word, set) {
				row[i] = stop
				continue
			}
			end := beginningAtEnd(word, set)
			if _, known := numbers[end]; !known {
				numbers[end] = len(ends)
				ends = append(ends, end)
			}
			row[i] = numbers[end]
		}
		r.next = append(r.next, row)
	}
	return r
}

func endsWithPattern(word string, set []string) bool {
	return slices.ContainsFunc(set, func(pattern string) bool { return strings.HasSuffix(word, pattern) })
}

// beginningAtEnd returns the longest end of a word with which a pattern begins.
func beginningAtEnd(word string, set []string) string {
	for word != "" && !slices.ContainsFunc(set, func(pattern string) bool { return strings.HasPrefix(pattern, word) }) {
		word = word[1:]
	}
	return word
}

// steps visits the letters that may follow an end, in ascending order, each with the end to which it leads.
func (r reader) steps(end int) iter.Seq2[byte, int] {
	return func(yield func(byte, int) bool) {
		for i, next := range r.next[end][:r.letters] {
			if next != stop && !yield(letterNames[i], next) {
				return
			}
		}
	}
}

// read returns the end to which a word leads from an end, or stop if a pattern occurs on its way.
func (r reader) read(end int, word string) int {
	for i := 0; i < len(word) && end != stop; i++ {
		end = r.next[end][strings.IndexByte(letterNames, word[i])]
	}
	return end
}

// room returns how many letters can follow each end, counted up to most.
func (r reader) room(most int) []int {
	room := make([]int, len(r.next))
	for range most {
		longer := make([]int, len(r.next))
		for end := range r.next {
			for _, next := range r.steps(end) {
				longer[end] = max(longer[end], room[next]+1)
			}
		}
		room = longer
	}
	return room
}

// longest returns the length of the longest words, and reports whether there are such words: one with as many letters as there are ends comes to some end twice, and can go round there for ever.
func (r reader) longest() (int, bool) {
	length := r.room(len(r.next))[0]
	return length, length < len(r.next)
}

// distances returns how many letters at least lead from each end to a goal; isWay tells those from which there is a way at all.
func (r reader) distances(goal int) []int {
	list := slices.Repeat([]int{len(r.next)}, len(r.next))
	list[goal] = 0
	for range r.next {
		for end := range r.next {
			for _, next := range r.steps(end) {
				list[end] = min(list[end], list[next]+1)
			}
		}
	}
	return list
}

// isWay relies on the shortest way to come to no end twice, so that it has fewer letters than there are ends.
func (r reader) isWay(distance int) bool { return distance < len(r.next) }

// smallest returns the smallest word of a length that can follow an end, if each of its letters leads to an end that fits the number of letters that are left. There must be one. The letters are offered in ascending order, and none after one that fits.
func (r reader) smallest(end, length int, fits func(end, left int) bool) string {
	word := make([]byte, 0, length)
	for left := length - 1; left >= 0; left-- {
		for letter, next := range r.steps(end) {
			if fits(next, left) {
				word = append(word, letter)
				end = next
				break
			}
		}
	}
	return string(word)
}

// smallestWithRoom returns the smallest word of a length that can follow an end, where room is at least the length for this end.
func (r reader) smallestWithRoom(end, length int, room []int) string {
	return r.smallest(end, length, func(end, left int) bool { return room[end] >= left })
}
