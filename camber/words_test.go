package camber_test

import (
	"math/rand/v2"
	"strings"
	"testing"

	"remould/api"
	"remould/camber"
)

// checkMatrix compares the matrix of a word with the product of great numbers, and reports whether it is too great.
func checkMatrix(t *testing.T, word string) bool {
	t.Helper()
	want, ok := matrixOf(word)
	wantErr := api.OK
	if !ok {
		wantErr = api.ErrFull
	}
	if matrix, e := camber.Matrix(word); matrix != want || e != wantErr {
		t.Errorf("Matrix(%q) = %v, %d, want %v, %d", word, matrix, e, want, wantErr)
	}
	return !ok
}

// P9.4: Matrix, with examples.
func TestMatrixExamples(t *testing.T) {
	for word, want := range map[string][4]int{
		"": {1, 0, 0, 1}, "a": {2, 1, 1, 1}, "b": {5, 2, 2, 1}, "ab": {12, 5, 7, 3}, "ba": {12, 7, 5, 3}, "abb": {70, 29, 41, 17},
	} {
		if matrix, e := camber.Matrix(word); matrix != want || e != api.OK {
			t.Errorf("Matrix(%q) = %v, %d", word, matrix, e)
		}
	}
}

// P9.4: Matrix, with all short words, and words of up to 40 letters.
func TestMatrixAgainstTerms(t *testing.T) {
	for length := range 11 {
		for _, word := range wordsOver("ab", length) {
			if checkMatrix(t, word) {
				t.Errorf("Matrix(%q) is too great", word)
			}
		}
	}
	random := rand.New(rand.NewPCG(9, 2))
	full, fine := 0, 0
	for range 6000 {
		if checkMatrix(t, anyWord(random, "ab", 22+random.IntN(api.MaxPhrase-21))) {
			full++
		} else {
			fine++
		}
	}
	if full < 1000 || fine < 1000 {
		t.Errorf("%d matrices are too great, %d are not", full, fine)
	}
	for n := range api.MaxPhrase + 1 {
		checkMatrix(t, strings.Repeat("a", n))
		checkMatrix(t, strings.Repeat("b", n))
		checkMatrix(t, strings.Repeat("a", n)+strings.Repeat("b", api.MaxPhrase-n))
		checkMatrix(t, strings.Repeat("b", n)+strings.Repeat("a", api.MaxPhrase-n))
	}
}

// P9.4: strings that are no words are an error before their matrix is too great.
func TestNoWords(t *testing.T) {
	for _, word := range []string{
		"A", "c", "L", "abc", "cab", "acb", "a b", " ", "a\n", "-", "\x00", "\xff", "\u0430", "a\xffb",
		strings.Repeat("a", api.MaxPhrase+1), strings.Repeat("b", api.MaxPhrase+1), strings.Repeat("b", 39) + "B", strings.Repeat("ab", 5000),
	} {
		if matrix, e := camber.Matrix(word); matrix != [4]int{} || e != api.ErrArg {
			t.Errorf("Matrix(%q) = %v, %d", word, matrix, e)
		}
	}
}

// checkWord compares the word of a path and its fraction with what they have to be.
func checkWord(t *testing.T, path string) {
	t.Helper()
	number := countsOf(path)
	want, wantErr := "", api.ErrFull
	if number.length() <= api.MaxPhrase {
		want, wantErr = wordOf(path), api.OK
	}
	if word, e := camber.Word(path); word != want || e != wantErr {
		t.Errorf("Word(%q) = %q, %d, want %q, %d", path, word, e, want, wantErr)
	}
	wantFraction, wantErr := api.Frac{}, api.ErrFull
	if number.length() <= 1000000000 {
		wantFraction, wantErr = api.Frac{Num: number.b, Den: number.a}, api.OK
	}
	if fraction, e := camber.Fraction(path); fraction != wantFraction || e != wantErr {
		t.Errorf("Fraction(%q) = %v, %d, want %v, %d", path, fraction, e, wantFraction, wantErr)
	}
}

// P9.4: Word and Fraction, with examples.
func TestWordExamples(t *testing.T) {
	for path, want := range map[string]string{
		"": "ab", "L": "abb", "R": "aab", "LL": "ababb", "LR": "abbb", "RL": "aabab", "RR": "aaab", "LLR": "abababb",
	} {
		fraction := api.Frac{Num: strings.Count(want, "b"), Den: strings.Count(want, "a")}
		word, e := camber.Word(path)
		gotFraction, f := camber.Fraction(path)
		if word != want || gotFraction != fraction || e != api.OK || f != api.OK {
			t.Errorf("Word(%q) = %q, %d, Fraction = %v, %d", path, word, e, gotFraction, f)
		}
	}
}

// P9.4: Word and Fraction, with all short paths, and some long ones.
func TestWordAgainstTerms(t *testing.T) {
	for _, path := range allPaths() {
		checkWord(t, path)
	}
}

// P9.4: Word at its bound, with all paths whose words have 40 and 41 letters.
func TestWordBound(t *testing.T) {
	for _, length := range []int{api.MaxPhrase, api.MaxPhrase + 1} {
		paths := 0
		for first := 1; first < length; first++ {
			if gcd(first, length) != 1 {
				continue
			}
			paths++
			path := pathTo(first, length-first)
			if countsOf(path).length() != length {
				t.Fatalf("the word of %q has %d letters, not %d", path, countsOf(path).length(), length)
			}
			checkWord(t, path)
		}
		if paths < 16 {
			t.Errorf("only %d paths lead to words of %d letters", paths, length)
		}
	}
}

// P9.4: Fraction at its bound, with paths whose words have about 10^9 letters.
func TestFractionBound(t *testing.T) {
	for length := 999999990; length <= 1000000010; length++ {
		paths := 0
		for first := 381966000; first <= 381966060; first++ {
			if path := pathTo(first, length-first); gcd(first, length) == 1 && len(path) <= api.MaxPath {
				paths++
				if countsOf(path).length() != length {
					t.Fatalf("the word of %q has %d letters, not %d", path, countsOf(path).length(), length)
				}
				checkWord(t, path)
			}
		}
		if paths == 0 {
			t.Errorf("no path leads to a word of %d letters", length)
		}
	}
}
