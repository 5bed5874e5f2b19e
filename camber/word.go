package camber

import "remould/api"

// maxCounted is the greatest number of letters of a word that are counted.
const maxCounted = 1000000000

// phrase is a word, or what is known of it while it grows.
type phrase[T any] interface {
	// and returns the phrase followed by another one.
	and(T) T
	length() int
}

// text is a word by its letters.
type text string

func (t text) and(u text) text { return t + u }

func (t text) length() int { return len(t) }

// tally is a word by the numbers of its letters.
type tally struct{ a, b int }

func (t tally) and(u tally) tally { return tally{t.a + u.a, t.b + u.b} }

func (t tally) length() int { return t.a + t.b }

// grown returns the word of a path that begins with the words u and v, and whether it has at most most letters. They are equally long only at the beginning, where u counts as the shorter one.
func grown[T phrase[T]](path string, u, v T, most int) (word T, ok bool) {
	word = u.and(v)
growth:
	for i := range len(path) {
		isShorter := u.length() <= v.length()
		switch {
		case word.length() > most:
			// It only grows, and may leave the memory, or the range of int.
			break growth
		case isShorter == (path[i] == 'L'):
			u = word
		default:
			v = word
		}
		word = u.and(v)
	}
	return word, word.length() <= most
}

// Word returns the word of a path.
func Word(path string) (string, api.Errno) {
	if !isPath(path) {
		return "", api.ErrArg
	}
	word, ok := grown(path, text("a"), text("b"), api.MaxPhrase)
	if !ok {
		return "", api.ErrFull
	}
	return string(word), api.OK
}

// Fraction returns the number of letters b in the word of a path by that of letters a.
func Fraction(path string) (api.Frac, api.Errno) {
	if !isPath(path) {
		return api.Frac{}, api.ErrArg
	}
	word, ok := grown(path, tally{a: 1}, tally{b: 1}, maxCounted)
	if !ok {
		return api.Frac{}, api.ErrFull
	}
	return api.Frac{Num: word.b, Den: word.a}, api.OK
}
