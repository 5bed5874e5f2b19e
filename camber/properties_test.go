package camber_test

import (
	"fmt"
	"math/rand/v2"
	"testing"

	"remould/api"
	"remould/camber"
)

// everyTriple returns all triples as the program knows them.
func everyTriple(t *testing.T) [][3]int {
	t.Helper()
	all, e := camber.All(api.MaxTriple)
	if e != api.OK || len(all) < 80 {
		t.Fatalf("All = %v, %d", all, e)
	}
	return all
}

// P9.6: Path and Follow correspond to each other.
func TestPathAndFollow(t *testing.T) {
	for _, l := range everyTriple(t)[2:] {
		path, e := camber.Path(l)
		back, f := camber.Follow(path)
		if back != l || e != api.OK || f != api.OK {
			t.Errorf("Path(%v) = %q, %d, Follow(%q) = %v, %d", l, path, e, path, back, f)
		}
	}
	for _, path := range allPaths() {
		l, e := camber.Follow(path)
		if e != api.OK {
			continue
		}
		if back, f := camber.Path(l); back != path || f != api.OK {
			t.Errorf("Follow(%q) = %v, Path(%v) = %q, %d", path, l, l, back, f)
		}
	}
}

// P9.6: the two greater numbers of a triple have no common divisor, and no two triples have the same greatest number.
func TestNumbersOfTriples(t *testing.T) {
	found := map[int]bool{}
	for _, l := range everyTriple(t) {
		if gcd(l[1], l[2]) != 1 {
			t.Errorf("%v: the common divisor of the greater numbers is %d", l, gcd(l[1], l[2]))
		}
		if found[l[2]] {
			t.Errorf("two triples have the greatest number %d", l[2])
		}
		found[l[2]] = true
	}
}

// P9.6: the square of the middle number of Form, minus 4 times the product of the others, is 9 z z - 4.
func TestFormProperty(t *testing.T) {
	for _, l := range everyTriple(t)[1:] {
		form, e := camber.Form(l)
		square := sum(product(form[1], form[1]), product(-4, form[0], form[2]))
		if want := sum(product(9, l[2], l[2]), product(-4)); square.Cmp(want) != 0 || e != api.OK {
			t.Errorf("Form(%v) = %v, %d", l, form, e)
		}
	}
}

// P9.6: trace and upper right number of the matrix of a triple's word.
func TestTraceOfWords(t *testing.T) {
	for _, l := range everyTriple(t)[2:] {
		path, _ := camber.Path(l)
		word, e := camber.Word(path)
		matrix, f := camber.Matrix(word)
		if e != api.OK || f != api.OK || matrix[0]+matrix[3] != 3*l[2] || matrix[1] != l[2] {
			t.Errorf("%v: Word(%q) = %q, %d, Matrix = %v, %d", l, path, word, e, matrix, f)
		}
	}
}

// P9.6: every matrix has the determinant 1.
func TestDeterminants(t *testing.T) {
	random := rand.New(rand.NewPCG(9, 3))
	for range 3000 {
		word := anyWord(random, "ab", random.IntN(api.MaxPhrase+1))
		m, e := camber.Matrix(word)
		if e == api.ErrFull {
			continue
		}
		if determinant := sum(product(m[0], m[3]), product(-1, m[1], m[2])); determinant.Cmp(product(1)) != 0 || e != api.OK {
			t.Errorf("Matrix(%q) = %v, %d", word, m, e)
		}
	}
}

// P9.6: Other is empty for k other than 1 and 3; for 1 it is All with all numbers times 3, for 3 it is All.
func TestOtherAndAll(t *testing.T) {
	for most := 1; most <= api.MaxOther; most += 9 {
		for k := 1; k <= 5; k++ {
			var want [][3]int
			if k == 3 {
				want, _ = camber.All(most)
			}
			if k == 1 && most >= 3 {
				want, _ = camber.All(most / 3)
				for i, l := range want {
					want[i] = [3]int{3 * l[0], 3 * l[1], 3 * l[2]}
				}
			}
			if all, e := camber.Other(k, most); fmt.Sprint(all) != fmt.Sprint(want) || e != api.OK {
				t.Errorf("Other(%d, %d) = %v, %d, want %v", k, most, all, e, want)
			}
		}
	}
}

// P9.4: fractions are in lowest terms.
func TestFractionsInLowestTerms(t *testing.T) {
	for _, path := range allPaths() {
		fraction, e := camber.Fraction(path)
		if e != api.OK {
			continue
		}
		if gcd(fraction.Num, fraction.Den) != 1 || fraction.Den < 1 {
			t.Errorf("Fraction(%q) = %v", path, fraction)
		}
	}
}

// answers makes every call of the layer, and writes down what it returns; the lists that are results are overwritten, so that they would spoil what they shared.
func answers(l [3]int, number, most int, text string) string {
	all, e := camber.All(most)
	others, f := camber.Other(number, most)
	children, g := camber.Children(l)
	answer := fmt.Sprint(all, e, others, f, children, g)
	for _, list := range [][][3]int{all, others, children} {
		for i := range list[:cap(list)] {
			list[:cap(list)][i] = [3]int{-7, -7, -7}
		}
	}
	answer += fmt.Sprint(camber.IsTriple(l))
	answer += fmt.Sprint(camber.Exchange(l, number))
	answer += fmt.Sprint(camber.Parent(l))
	answer += fmt.Sprint(camber.Path(l))
	answer += fmt.Sprint(camber.Root(l))
	answer += fmt.Sprint(camber.Form(l))
	answer += fmt.Sprint(camber.Proper(number))
	answer += fmt.Sprint(camber.Bound(number))
	answer += fmt.Sprint(camber.Follow(text))
	answer += fmt.Sprint(camber.Word(text))
	answer += fmt.Sprint(camber.Matrix(text))
	answer += fmt.Sprint(camber.Fraction(text))
	return answer
}

// P1, P2, rule 5: all calls return for any arguments, the same for the same ones, in any order.
func TestAnyArguments(t *testing.T) {
	random := rand.New(rand.NewPCG(9, 4))
	lists := append(noTriples(), allTriples()...)
	texts := append(noPaths(), allPaths()[:300]...)
	texts = append(texts, wordsOver("ab", 4)...)
	numbers := append(noNumbers(api.MaxTriple), noNumbers(api.MaxOther)...)
	numbers = append(numbers, 1, 2, 3, 4, 5, 29, 433, api.MaxOther, api.MaxTriple)
	before := map[string]string{}
	for range 2 {
		for i, l := range lists {
			number, most := numbers[(7*i)%len(numbers)], numbers[(11*i)%len(numbers)]
			text := texts[i%len(texts)]
			key := fmt.Sprint(l, number, most, text)
			answer := answers(l, number, most, text)
			if known, found := before[key]; found && known != answer {
				t.Errorf("%s: %s, then %s", key, known, answer)
			}
			before[key] = answer
			// Other calls between those that are compared.
			answers(lists[random.IntN(len(lists))], number, most, texts[random.IntN(len(texts))])
		}
	}
}
