package camber

import (
	"slices"
	"strings"

	"remould/api"
)

// maxEntry is the greatest number of a matrix. Seven times as much is within the range of int, so that one more factor does not leave it.
const maxEntry = 1 << 60

// matrix has its numbers row by row.
type matrix [4]int

func (m matrix) times(n matrix) matrix {
	return matrix{
		m[0]*n[0] + m[1]*n[2], m[0]*n[1] + m[1]*n[3],
		m[2]*n[0] + m[3]*n[2], m[2]*n[1] + m[3]*n[3],
	}
}

func matrixOf(letter byte) matrix {
	if letter == 'a' {
		return matrix{2, 1, 1, 1}
	}
	return matrix{5, 2, 2, 1}
}

func isWord(word string) bool {
	return len(word) <= api.MaxPhrase && strings.Trim(word, "ab") == ""
}

// Matrix returns the product of the matrices of the letters of a word.
func Matrix(word string) ([4]int, api.Errno) {
	if !isWord(word) {
		return [4]int{}, api.ErrArg
	}
	product := matrix{1, 0, 0, 1}
	for i := range len(word) {
		product = product.times(matrixOf(word[i]))
		// No factor that follows makes the greatest number less.
		if slices.Max(product[:]) > maxEntry {
			return [4]int{}, api.ErrFull
		}
	}
	return product, api.OK
}
