package tread_test

import (
	"math/rand/v2"
	"slices"
	"strings"

	"remould/api"
)

// The helpers below follow the chapter word by word, without any code of the package, so that the tests compare two ways to the same result.

// treads are letters with a set for them.
type treads struct {
	q   int
	set []string
}

func letters(q int) []string { return []string{"a", "b", "c"}[:q] }

// wordsOf returns all words of length n in ascending order.
func wordsOf(q, n int) []string {
	all := []string{""}
	for range n {
		var longer []string
		for _, word := range all {
			for _, letter := range letters(q) {
				longer = append(longer, word+letter)
			}
		}
		all = longer
	}
	return all
}

func avoids(set []string, word string) bool {
	return !slices.ContainsFunc(set, func(pattern string) bool { return strings.Contains(word, pattern) })
}

// avoiding returns all words of length n that avoid the set, in ascending order.
func avoiding(q int, set []string, n int) []string {
	return slices.DeleteFunc(wordsOf(q, n), func(word string) bool { return !avoids(set, word) })
}

// goesRound reports whether a word is a loop: six times the word are longer than the word and a pattern.
func goesRound(set []string, word string) bool {
	return word != "" && avoids(set, strings.Repeat(word, 1+api.MaxPattern))
}

// longestPattern returns the length of the longest pattern, and at least 1.
func longestPattern(set []string) int {
	most := 1
	for _, pattern := range set {
		most = max(most, len(pattern))
	}
	return most
}

// lastLetters are all that matters of a word if it is prolonged: no pattern reaches further back.
func lastLetters(set []string, word string) string {
	return word[max(0, len(word)-longestPattern(set)+1):]
}

// prolong returns, for all last letters that can arise from the words by one more letter, the smallest such word.
func prolong(q int, set []string, words map[string]string) map[string]string {
	longer := map[string]string{}
	for last, word := range words {
		for _, letter := range letters(q) {
			if !avoids(set, last+letter) {
				continue
			}
			next := lastLetters(set, last+letter)
			if best, known := longer[next]; !known || word+letter < best {
				longer[next] = word + letter
			}
		}
	}
	return longer
}

// tooLong is a length at which some last letters have come twice: a word of it can be prolonged without end.
func tooLong(q int, set []string) int {
	windows := 1
	for range longestPattern(set) - 1 {
		windows *= q
	}
	return longestPattern(set) + windows
}

func smallestOf(words map[string]string) string {
	best, first := "", true
	for _, word := range words {
		if first || word < best {
			best, first = word, false
		}
	}
	return best
}

// longestAvoiding returns the smallest one of the longest words that avoid the set, and whether there is one.
func longestAvoiding(q int, set []string) (string, bool) {
	words := map[string]string{"": ""}
	best := ""
	for n := range tooLong(q, set) {
		if words = prolong(q, set, words); len(words) == 0 {
			return best, true
		}
		if best = smallestOf(words); len(best) != n+1 {
			panic("a word of another length")
		}
	}
	return "", false
}

func cannotBeAvoided(q int, set []string) bool {
	_, is := longestAvoiding(q, set)
	return is
}

// shortestLoop returns the smallest one of the shortest loops: for all last letters, the shortest way back to them.
func shortestLoop(q int, set []string) string {
	best := ""
	for _, start := range wordsOf(q, longestPattern(set)-1) {
		if !avoids(set, start) {
			continue
		}
		words := map[string]string{start: ""}
		for n := 1; n <= tooLong(q, set) && (best == "" || n <= len(best)) && len(words) > 0; n++ {
			words = prolong(q, set, words)
			if loop, is := words[start]; is {
				if best == "" || n < len(best) || loop < best {
					best = loop
				}
				break
			}
		}
	}
	return best
}

// makeSet returns patterns as a set: in ascending order, each one once.
func makeSet(patterns []string) []string {
	set := slices.Clone(patterns)
	slices.Sort(set)
	return slices.Compact(set)
}

func randomWord(r *rand.Rand, q, n int) string {
	word := ""
	for range n {
		word += letters(q)[r.IntN(q)]
	}
	return word
}

// randomSets returns sets of patterns that are chosen at random, the same ones each time.
func randomSets(q, number int) []treads {
	r := rand.New(rand.NewPCG(2, uint64(q)))
	var all []treads
	for range number {
		var set []string
		most := 1 + r.IntN(api.MaxPattern)
		for range 1 + r.IntN(api.MaxPatterns) {
			set = append(set, randomWord(r, q, 1+r.IntN(most)))
		}
		all = append(all, treads{q, makeSet(set)})
	}
	return all
}

// closedSets returns sets that arise by adding a part of a loop as long as there is one; what comes on the way there belongs to them, as it leaves few loops.
func closedSets(q, number int) []treads {
	r := rand.New(rand.NewPCG(3, uint64(q)))
	var all []treads
	for range number {
		var set []string
		shortest := 1 + r.IntN(api.MaxPattern)
		for len(set) < api.MaxPatterns {
			loop := shortestLoop(q, set)
			if loop == "" {
				break
			}
			long := strings.Repeat(loop, 1+api.MaxPattern)
			from, length := r.IntN(len(loop)), shortest+r.IntN(api.MaxPattern-shortest+1)
			set = makeSet(append(set, long[from:from+length]))
			all = append(all, treads{q, set})
		}
	}
	return all
}

// someSets returns sets of all kinds.
func someSets() []treads {
	all := []treads{
		{1, nil}, {1, []string{}}, {2, nil}, {3, nil},
		{1, []string{"a"}}, {1, []string{"aa"}}, {1, []string{"aaaaa"}}, {1, []string{"a", "aa", "aaa", "aaaa", "aaaaa"}},
		{2, []string{"a"}}, {2, []string{"b"}}, {2, []string{"a", "b"}}, {2, []string{"aa", "ab", "bb"}}, {2, []string{"aa", "bb"}},
		{2, []string{"ba"}}, {2, []string{"aab"}}, {2, []string{"ab", "ba"}}, {2, []string{"aaaaa", "bbbbb"}},
		{2, []string{"a", "aa", "ab", "b"}}, {2, []string{"aabb", "ab"}}, {2, []string{"aaaaa", "aba", "bb"}},
		{2, []string{"aaa", "aab", "aba", "abb", "baa", "bab", "bba", "bbb"}},
		{3, []string{"a"}}, {3, []string{"b", "c"}}, {3, []string{"a", "b", "c"}}, {3, []string{"aa", "bb", "cc"}},
		{3, []string{"aa", "ab", "ac", "bb", "bc", "cc"}}, {3, []string{"ba", "ca", "cb"}}, {3, []string{"bc", "ca", "cb"}},
		{3, []string{"aa", "ab", "ba", "bb", "cc"}}, {3, []string{"aaaaa", "bbbbb", "ccccc"}},
	}
	all = append(all, setsWithLongLoops()...)
	all = append(all, setsThatGrow()...)
	for q := 1; q <= api.MaxLetters; q++ {
		all = append(all, randomSets(q, 20*q)...)
		all = append(all, closedSets(q, 6)...)
	}
	return all
}

// setsWithLongLoops returns sets whose loops, or whose longest words, are long.
func setsWithLongLoops() []treads {
	return []treads{
		{2, strings.Fields("aaaaa aaabb aabaa abaab ababa abbba babab babba bbaaa bbaab bbabb bbbbb")},
		{2, strings.Fields("aaaaa aaabb aabaa aabba abaab ababa baaab babab bbaaa bbaab bbabb bbbbb")},
		{2, strings.Fields("aaaaa aabaa ababa abbaa abbab abbba bbaab bbbab bbbbb")},
		{3, strings.Fields("aaaa ababa abbab abbba baaab baaba babbb bbaa bbbbb c")},
		{3, strings.Fields("aaaa abc ac ba bbbbb bbca bcabb bcbb cbcb cbccb cc ccc")},
		{2, strings.Fields("aaaaa aabaa aabba ababa abbab baaaa baaab baabb babbb bbaab bbbbb")},
		{3, strings.Fields("aaaaa ab acaca accac bab bbbb caaa caac caccc cb ccccc")},
	}
}

// setsThatGrow returns sets of the growths 1 to 5.
func setsThatGrow() []treads {
	return []treads{
		{2, strings.Fields("aaaaa aabba abaaa abbba baaab baaba babab bbabb bbbaa bbbbb")},
		{2, strings.Fields("aab abb")},
		{3, strings.Fields("ab ac bc")},
		{2, strings.Fields("aaab aabb abab abbb")},
		{2, strings.Fields("aabba abaaa abbab baa baaba baabb babaa bbaba bbbba")},
		{2, strings.Fields("aaaab aaab aaabb aabab aabbb ababb abbbb baabb babbb bbaa bbbaa")},
		{3, strings.Fields("aba acaa acb acc baa baba bbac bbba bc bcab cbac")},
		{3, strings.Fields("aab aac acb acc baa bac bba cab cba cbb ccb")},
		{3, strings.Fields("aaac aaba aac abb acaa bcbb bccc caaa cab cb cca")},
	}
}

// noSets returns what is no set, or no number of letters.
func noSets() []treads {
	many := wordsOf(2, 4)[:api.MaxPatterns+1]
	return []treads{
		{0, nil}, {-1, nil}, {4, nil}, {1 << 62, nil}, {-1 << 63, nil},
		{0, []string{"a"}}, {4, []string{"d"}}, {-1, []string{"a"}},
		{1, []string{"b"}}, {1, []string{"a", "ab"}}, {2, []string{"c"}}, {2, []string{"a", "bc"}}, {3, []string{"d"}},
		{2, []string{""}}, {2, []string{"", "a"}}, {2, []string{"a", ""}},
		{2, []string{"A"}}, {2, []string{"a b"}}, {2, []string{"a\x00"}}, {2, []string{"\xff"}}, {3, []string{"ä"}}, {1, []string{"`"}},
		{2, []string{"b", "a"}}, {2, []string{"a", "a"}}, {2, []string{"ab", "aa"}}, {2, []string{"aa", "a"}}, {2, []string{"b", "aa"}},
		{1, []string{"aaaaaa"}}, {2, []string{"a", "bababa"}}, {2, []string{strings.Repeat("ab", 100000)}},
		{2, many}, {2, make([]string, 100000)},
	}
}
