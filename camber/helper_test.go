package camber_test

import (
	"math"
	"math/big"
	"math/rand/v2"
	"slices"
	"strings"

	"remould/api"
)

// The helpers below follow the chapter word by word, without any code of the package, so that the tests compare two ways to the same result.

// product returns the product of some numbers, however great it is.
func product(factors ...int) *big.Int {
	result := big.NewInt(1)
	for _, factor := range factors {
		result.Mul(result, big.NewInt(int64(factor)))
	}
	return result
}

// sum returns the sum of some numbers, however great it is.
func sum(numbers ...*big.Int) *big.Int {
	result := new(big.Int)
	for _, number := range numbers {
		result.Add(result, number)
	}
	return result
}

// gcd returns the greatest common divisor of two numbers.
func gcd(a, b int) int {
	return int(new(big.Int).GCD(nil, nil, product(a), product(b)).Int64())
}

// isTriple reports whether three numbers are in order and in range, and fit the equation.
func isTriple(l [3]int) bool {
	x, y, z := l[0], l[1], l[2]
	squares := sum(product(x, x), product(y, y), product(z, z))
	return 1 <= x && x <= y && y <= z && z <= api.MaxTriple && squares.Cmp(product(3, x, y, z)) == 0
}

// exchanged returns three numbers after exchanging the one at a position, and whether none of them is too great.
func exchanged(l [3]int, at int) ([3]int, bool) {
	others := slices.Delete(slices.Clone(l[:]), at, at+1)
	number := new(big.Int).Sub(product(3, others[0], others[1]), product(l[at]))
	if number.Cmp(big.NewInt(api.MaxTriple)) > 0 {
		return [3]int{}, false
	}
	list := append(others, int(number.Int64()))
	slices.Sort(list)
	return [3]int(list), true
}

// pathTriple is a triple with its path.
type pathTriple struct {
	path   string
	triple [3]int
}

// grownFrom returns a triple, and those that arise from it by going to children.
func grownFrom(t pathTriple) []pathTriple {
	x, y, z := t.triple[0], t.triple[1], t.triple[2]
	all := []pathTriple{t}
	if left := 3*y*z - x; left <= api.MaxTriple {
		all = append(all, grownFrom(pathTriple{t.path + "L", [3]int{y, z, left}})...)
	}
	if right := 3*x*z - y; right <= api.MaxTriple {
		all = append(all, grownFrom(pathTriple{t.path + "R", [3]int{x, z, right}})...)
	}
	return all
}

// withPaths returns all triples that have a path.
func withPaths() []pathTriple { return grownFrom(pathTriple{"", [3]int{1, 2, 5}}) }

// byLast puts triples into the order of All.
func byLast(s, t [3]int) int {
	slices.Reverse(s[:])
	slices.Reverse(t[:])
	return slices.Compare(s[:], t[:])
}

// allTriples returns all triples, in the order of All.
func allTriples() [][3]int {
	all := [][3]int{{1, 1, 1}, {1, 1, 2}}
	for _, t := range withPaths() {
		all = append(all, t.triple)
	}
	slices.SortFunc(all, byLast)
	return all
}

// upTo returns those of the triples, in the order of All, with z at most most.
func upTo(all [][3]int, most int) [][3]int {
	n := slices.IndexFunc(all, func(t [3]int) bool { return t[2] > most })
	if n < 0 {
		return all
	}
	return all[:n]
}

// searched returns all triples with z at most most, which is at most 10^8, in the order of All, without the tree: for each x and y the numbers z are tried for which the equation can hold.
func searched(most int) [][3]int {
	var all [][3]int
	for x := 1; 3*x*x <= 2*most+1; x++ {
		// The greater one of both solutions z is at least half of 3 x y, and the smaller one is less than y, unless x and y are 1.
		for y := x; 3*x*y <= 2*most+1; y++ {
			root := int(math.Sqrt(float64(9*x*x*y*y - 4*(x*x+y*y))))
			for z := max(y, (3*x*y+root)/2-1); z <= min(most, (3*x*y+root)/2+1); z++ {
				if x*x+y*y+z*z == 3*x*y*z {
					all = append(all, [3]int{x, y, z})
				}
			}
		}
	}
	slices.SortFunc(all, byLast)
	return all
}

// rootOf returns the root of a triple.
func rootOf(l [3]int) int {
	u := 0
	for (u*l[0]-l[1])%l[2] != 0 && (u*l[0]+l[1])%l[2] != 0 {
		u++
	}
	return u
}

// matrixOf returns the matrix of a word, and whether no number is greater than 2^60.
func matrixOf(word string) ([4]int, bool) {
	one, none := product(1), product(0)
	m := [2][2]*big.Int{{one, none}, {none, one}}
	for _, letter := range word {
		n := [2][2]int{{2, 1}, {1, 1}}
		if letter == 'b' {
			n = [2][2]int{{5, 2}, {2, 1}}
		}
		var next [2][2]*big.Int
		for i := range 2 {
			for j := range 2 {
				next[i][j] = sum(new(big.Int).Mul(m[i][0], product(n[0][j])), new(big.Int).Mul(m[i][1], product(n[1][j])))
			}
		}
		m = next
	}
	var numbers [4]int
	for i := range numbers {
		number := m[i/2][i%2]
		if number.Cmp(product(1<<60)) > 0 {
			return [4]int{}, false
		}
		numbers[i] = int(number.Int64())
	}
	return numbers, true
}

// counts has the numbers of letters a and b.
type counts struct{ a, b int }

func (c counts) length() int { return c.a + c.b }

// countsOf returns the numbers of letters of the word of a path.
func countsOf(path string) counts {
	u, v := counts{a: 1}, counts{b: 1}
	for i, letter := range path {
		both := counts{u.a + v.a, u.b + v.b}
		switch {
		case i == 0 && letter == 'L', letter == 'L' && u.length() < v.length(), letter == 'R' && u.length() > v.length():
			u = both
		default:
			v = both
		}
	}
	return counts{u.a + v.a, u.b + v.b}
}

// wordOf returns the word of a path that is not too long for the memory.
func wordOf(path string) string {
	u, v := "a", "b"
	for i, letter := range path {
		switch {
		case i == 0 && letter == 'L', letter == 'L' && len(u) < len(v), letter == 'R' && len(u) > len(v):
			u = u + v
		default:
			v = u + v
		}
	}
	return u + v
}

// pathTo returns the path at the end of which both words have these lengths, the first one before the second one; without a common divisor there is one, unless it is too long. It goes back from the lengths to 1 and 1.
func pathTo(first, second int) string {
	path := ""
	for first != second {
		// The greater length is the last one that arose, as the sum of both.
		isFirst := first > second
		if isFirst {
			first -= second
		} else {
			second -= first
		}
		wasShorter := isFirst == (first < second)
		if first == second {
			wasShorter = isFirst
		}
		if wasShorter {
			path = "L" + path
		} else {
			path = "R" + path
		}
	}
	return path
}

// wordsOver returns all words of a length over two letters.
func wordsOver(two string, length int) []string {
	if length == 0 {
		return []string{""}
	}
	var words []string
	for _, word := range wordsOver(two, length-1) {
		words = append(words, word+two[:1], word+two[1:])
	}
	return words
}

// anyWord returns a word over two letters, with any share of each of them.
func anyWord(random *rand.Rand, two string, length int) string {
	var word strings.Builder
	share := random.Float64()
	for range length {
		if random.Float64() < share {
			word.WriteByte(two[0])
		} else {
			word.WriteByte(two[1])
		}
	}
	return word.String()
}

// allPaths returns all short paths, and some long ones.
func allPaths() []string {
	var paths []string
	for length := range 11 {
		paths = append(paths, wordsOver("LR", length)...)
	}
	for length := 11; length <= api.MaxPath; length++ {
		paths = append(paths, strings.Repeat("L", length), strings.Repeat("R", length), strings.Repeat("LR", length/2), strings.Repeat("RRL", length/3))
	}
	random := rand.New(rand.NewPCG(9, 1))
	for range 3000 {
		paths = append(paths, anyWord(random, "LR", 11+random.IntN(api.MaxPath-10)))
	}
	return paths
}

// noPaths returns strings that are no paths.
func noPaths() []string {
	return []string{
		"l", "r", "a", "LRx", "xLR", "LxR", "L R", " ", "L\n", "-", "\x00", "\xff", "L\xffR", "\u0141", "R\u0141L", "LR,", "0",
		strings.Repeat("R", api.MaxPath+1), strings.Repeat("L", api.MaxPath+1), strings.Repeat("RL", 5000), strings.Repeat("L", api.MaxPath) + "x", strings.Repeat("L", 59) + "a",
	}
}

// noTriples returns lists that are no triples.
func noTriples() [][3]int {
	lists := [][3]int{
		{}, {0, 0, 1}, {0, 1, 1}, {-1, -1, 1}, {-1, -1, 2}, {-5, -2, 1}, {-1, 1, 2}, {1, 1, -1}, {1, 1, 0},
		{1, 2, 1}, {2, 1, 1}, {1, 5, 2}, {2, 1, 5}, {5, 2, 1}, {2, 5, 1}, {29, 5, 2},
		{1, 1, 3}, {1, 2, 3}, {1, 2, 4}, {1, 2, 6}, {2, 2, 2}, {3, 3, 3}, {3, 3, 6}, {2, 2, 4}, {1, 5, 14}, {5, 13, 193},
		{1, 433494437, 1134903170}, {1, 2, 1000000001}, {1000000000, 1000000000, 1000000000},
		{936082814, 998353613, 999986443}, // both sides of the equation leave the same remainder by 2^64
		{math.MinInt, math.MinInt, math.MinInt}, {math.MaxInt, math.MaxInt, math.MaxInt}, {math.MinInt, 1, math.MaxInt}, {1, 2, math.MaxInt}, {1, math.MaxInt, math.MaxInt},
		{1 << 32, 1 << 32, 1 << 32}, {1 << 31, 1 << 31, 1 << 31}, {1, 1, 1 << 32}, {1, 1, 1<<32 + 1}, {1, 1<<63 - 1, 2}, {math.MinInt, math.MinInt, 0},
	}
	for _, t := range []struct{ x, y, z int }{{1, 1, 2}, {1, 2, 5}, {2, 5, 29}, {5, 29, 433}} {
		for _, d := range []int{1, -1, 1 << 32, math.MinInt} {
			lists = append(lists, [3]int{t.x + d, t.y, t.z}, [3]int{t.x, t.y + d, t.z}, [3]int{t.x, t.y, t.z + d})
		}
	}
	return slices.DeleteFunc(lists, isTriple)
}

// noNumbers returns numbers that are not from 1 to most.
func noNumbers(most int) []int {
	return []int{0, -1, -5, most + 1, 1 << 32, 1<<32 + 5, -1 << 62, math.MaxInt, math.MinInt}
}
