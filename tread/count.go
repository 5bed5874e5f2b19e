package tread

import (
	"slices"

	"remould/api"
)

// maxNumber is the greatest number of words that is still counted.
const maxNumber = 1 << 60

// numbers returns, for each length of at most n and for each end, how many words of this length can follow it, and reports whether no number of words is too great. What follows an end can follow the empty one, so that its numbers are the greatest ones, and none of them gets out of the range of int before it is found to be too great.
func (r reader) numbers(n int) ([][]int, bool) {
	list := [][]int{slices.Repeat([]int{1}, len(r.next))}
	for length := range n {
		row := make([]int, len(r.next))
		for end := range r.next {
			for _, next := range r.steps(end) {
				row[end] += list[length][next]
			}
		}
		if row[0] > maxNumber {
			return nil, false
		}
		list = append(list, row)
	}
	return list, true
}

// Count returns the number of words of length n that avoid the set.
func Count(q int, set []string, n int) (int, api.Errno) {
	if !isSet(q, set) || !isLength(n) {
		return 0, api.ErrArg
	}
	numbers, ok := newReader(q, set).numbers(n)
	if !ok {
		return 0, api.ErrFull
	}
	return numbers[n][0], api.OK
}

// Item returns the word of length n that avoids the set and has k such words before it.
func Item(q int, set []string, n, k int) (string, api.Errno) {
	if !isSet(q, set) || !isLength(n) {
		return "", api.ErrArg
	}
	r := newReader(q, set)
	numbers, ok := r.numbers(n)
	if !ok {
		return "", api.ErrFull
	}
	if k < 0 || k >= numbers[n][0] {
		return "", api.ErrArg
	}
	before := k
	word := r.smallest(0, n, func(end, left int) bool {
		fits := before < numbers[left][end]
		if !fits {
			before -= numbers[left][end]
		}
		return fits
	})
	return word, api.OK
}

// Index returns how many words of the same length that avoid the set come before the word.
func Index(q int, set []string, word string) (int, api.Errno) {
	if !isSet(q, set) || !isLength(len(word)) || !hasLetters(q, word) {
		return 0, api.ErrArg
	}
	r := newReader(q, set)
	numbers, ok := r.numbers(len(word))
	if !ok {
		return 0, api.ErrFull
	}
	if r.read(0, word) == stop {
		return 0, api.ErrNone
	}
	index, end := 0, 0
	for i := range len(word) {
		for letter, next := range r.steps(end) {
			if letter == word[i] {
				end = next
				break
			}
			index += numbers[len(word)-1-i][next]
		}
	}
	return index, api.OK
}
