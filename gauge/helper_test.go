package gauge_test

import (
	"cmp"
	"math"
	"math/rand/v2"
	"slices"
	"strings"

	"remould/api"
)

// The helpers below follow the chapter word by word, without any code of the package, so that the tests compare two ways to the same result.

// Two Fibonacci numbers whose ratio differs from w by less than 10^-18. What is compared in these tests has coordinates of less than 2 10^8, and is, if not 0, at least 10^-9 from it, because its norm is at least 1 from 0: so the ratio orders it as w does.
const (
	scaleOfOne = 1134903170
	scaleOfW   = 1836311903
)

// order returns -1, 0 or 1 if x is less than, equal to, or greater than y.
func order(x, y api.Gold) int {
	return cmp.Compare((x.A-y.A)*scaleOfOne+(x.B-y.B)*scaleOfW, 0)
}

func whole(n int) api.Gold { return api.Gold{A: n} }

func sum(x, y api.Gold) api.Gold { return api.Gold{A: x.A + y.A, B: x.B + y.B} }

func isIn(x api.Gold) bool {
	return max(x.A, x.B) <= api.MaxGold && min(x.A, x.B) >= -api.MaxGold
}

// fibonacci returns the Fibonacci number with any position, of which those with 1 and 2 are 1.
func fibonacci(k int) int {
	at, next := 0, 1
	for range max(k, -k) {
		at, next = next, at+next
	}
	if k < 0 && k%2 == 0 {
		return -at
	}
	return at
}

// powerOfW returns w^k.
func powerOfW(k int) api.Gold { return api.Gold{A: fibonacci(k - 1), B: fibonacci(k)} }

// valueOf returns the value of a text, which may be no number.
func valueOf(text string) api.Gold {
	value := api.Gold{}
	before, after, _ := strings.Cut(text, ".")
	for i, digit := range before + after {
		power := powerOfW(len(before) - 1 - i)
		for range digit - '0' {
			value = sum(value, power)
		}
	}
	return value
}

// isPlain reports whether a text is plain.
func isPlain(text string) bool {
	before, after, found := strings.Cut(text, ".")
	return strings.Trim(before+after, "01") == "" && !strings.Contains(before+after, "11") &&
		(before == "0" || strings.HasPrefix(before, "1")) &&
		(!found || strings.HasSuffix(after, "1"))
}

// product returns x times y: both are matrices whose rows are the coordinates of the number and of the number times w.
func product(x, y api.Gold) api.Gold {
	rows := [2][2]int{{y.A, y.B}, {y.B, y.A + y.B}}
	return api.Gold{A: x.A*rows[0][0] + x.B*rows[1][0], B: x.A*rows[0][1] + x.B*rows[1][1]}
}

// norm returns the determinant of the matrix of x.
func norm(x api.Gold) int { return x.A*(x.A+x.B) - x.B*x.B }

func newRandom() *rand.Rand { return rand.New(rand.NewPCG(4, 10)) }

// smallNumbers returns the numbers with coordinates of an absolute value of at most most.
func smallNumbers(most int) []api.Gold {
	var all []api.Gold
	for a := -most; a <= most; a++ {
		for b := -most; b <= most; b++ {
			all = append(all, api.Gold{A: a, B: b})
		}
	}
	return all
}

// greatNumbers returns numbers of which a coordinate is at the limit, and some that are near to 0 in spite of great coordinates, or whose mates are.
func greatNumbers() []api.Gold {
	const m = api.MaxGold
	all := []api.Gold{
		{A: m, B: m}, {A: m, B: -m}, {A: -m, B: m}, {A: -m, B: -m}, {A: m}, {A: -m}, {B: m}, {B: -m},
		{A: m, B: m - 1}, {A: m - 1, B: -m}, {A: m, B: 1}, {A: m, B: -1}, {A: 1, B: m}, {A: -1, B: m},
		{A: m, B: -618033}, {A: m, B: -618034}, {A: m, B: -618035}, {A: -m, B: 618033}, {A: -m, B: 618034},
	}
	for k := -30; k <= 30; k++ {
		if power := powerOfW(k); isIn(power) {
			all = append(all, power, api.Gold{A: -power.A, B: -power.B})
		}
	}
	return all
}

// someNumbers returns small and great numbers, and such of all sizes that are chosen at random, the same ones each time.
func someNumbers() []api.Gold {
	r := newRandom()
	all := append(smallNumbers(9), greatNumbers()...)
	for size := 10; size <= api.MaxGold; size *= 10 {
		for range 40 {
			all = append(all, api.Gold{A: r.IntN(2*size+1) - size, B: r.IntN(2*size+1) - size})
		}
	}
	return all
}

// noNumbers returns what is no number.
func noNumbers() []api.Gold {
	var all []api.Gold
	for _, far := range []int{api.MaxGold + 1, api.MaxGold + 2, 1 << 31, 1 << 32, 1 << 62, math.MaxInt} {
		all = append(all, api.Gold{A: far}, api.Gold{B: far}, api.Gold{A: -far}, api.Gold{B: -far},
			api.Gold{A: far, B: -far}, api.Gold{A: -far, B: far}, api.Gold{A: far, B: far}, api.Gold{A: 1, B: -far})
	}
	return append(all, api.Gold{A: math.MinInt}, api.Gold{B: math.MinInt}, api.Gold{A: math.MinInt, B: math.MinInt}, api.Gold{A: math.MinInt, B: math.MaxInt})
}

// plainTexts returns the plain texts with at most most digits and no point, in ascending order of their values.
func plainTexts(most int) []string {
	all := []string{"0", "1"}
	for n := 2; n <= most; n++ {
		// A digit 1, then zeros, then what is there already and has at most n - 2 digits. (After 1, 0 is a zero like any other.)
		for _, text := range slices.Clone(all) {
			if text == "0" || len(text) <= n-2 {
				all = append(all, "1"+strings.Repeat("0", n-1-len(text))+text)
			}
		}
	}
	return all
}

// ladderOf returns the values of the plain texts with at most most digits and no point, in ascending order.
func ladderOf(most int) []api.Gold {
	shorter, all := []api.Gold{{}}, []api.Gold{{}, {A: 1}}
	for n := 2; n <= most; n++ {
		longer := slices.Clone(all)
		for _, value := range shorter {
			longer = append(longer, sum(value, powerOfW(n-1)))
		}
		shorter, all = all, longer
	}
	slices.SortFunc(all, order)
	return all
}

// zeros returns a string of n digits 0.
func zeros(n int) string { return strings.Repeat("0", n) }

// someTexts returns texts, plain and others: all short ones, the longest ones, and such that are chosen at random, the same ones each time.
func someTexts() []string {
	all := shortTexts()
	for _, digit := range []string{"0", "1", "2", "3"} {
		line := strings.Repeat(digit, api.MaxDigits)
		all = append(all, line, line+"."+line, line+".1", "1."+line, "0."+line)
	}
	all = append(all, "1"+zeros(39), "0."+zeros(39)+"1", zeros(39)+"1."+zeros(40), "0."+strings.Repeat("10", 19)+"11", zeros(40)+"."+strings.Repeat("01", 19)+"02")
	r := newRandom()
	for before := 1; before <= api.MaxDigits; before += 3 {
		for after := 0; after <= api.MaxDigits; after += 2 {
			text := randomDigits(r, before)
			if after > 0 {
				text += "." + randomDigits(r, after)
			}
			all = append(all, text)
		}
	}
	return all
}

func randomDigits(r *rand.Rand, n int) string {
	var list []byte
	for range n {
		list = append(list, "0123"[r.IntN(4)])
	}
	return string(list)
}

// shortTexts returns all texts with at most two digits before the point and at most two after it.
func shortTexts() []string {
	const digits = "0123"
	var runs []string
	for i := range digits {
		runs = append(runs, digits[i:i+1])
		for k := range digits {
			runs = append(runs, digits[i:i+1]+digits[k:k+1])
		}
	}
	all := slices.Clone(runs)
	for _, before := range runs {
		for _, after := range runs {
			all = append(all, before+"."+after)
		}
	}
	return all
}

// noTexts returns what is no text.
func noTexts() []string {
	return []string{
		"", ".", "..", "1.", ".1", "1..0", "1.0.", ".1.0", "1.0.1", "1.0.0", "4", "9", "1.4", "14", "1.04", "/", ":", "1/", "-1", "+1", "1.-1", "1-", " 1", "1 ", "1. 0", " ",
		"1,0", "a", "1a", "1.a", "0x1", "1e1", "\x00", "1\x00", "\x001", "1\n", "\n1", "1.0\n", "\xff", "1\xff", "١", "１", "1.１", "1．0", "w",
		zeros(41), zeros(40) + "1", "1" + zeros(40), zeros(41) + ".0", "0." + zeros(41), "0." + zeros(40) + "1", zeros(41) + "." + zeros(41), zeros(40) + "." + zeros(40) + ".", zeros(40) + "." + zeros(40) + "4",
		zeros(1000000), "0." + zeros(1000000), zeros(1000000) + "." + zeros(1000000), strings.Repeat(".", 1000000), strings.Repeat("1.", 1000000), strings.Repeat("x", 1000000),
	}
}
