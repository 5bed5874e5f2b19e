package wheel_test

import (
	"fmt"
	"math"
	"math/big"
	"math/rand/v2"
	"slices"

	"remould/api"
)

// ruleOf returns a rule with its Times, followed by its Plus.
func ruleOf(modulus int, lists ...int) api.Rule {
	return api.Rule{Modulus: modulus, Times: lists[:modulus], Plus: lists[modulus:]}
}

// half returns the rule that halves even numbers, and sends odd ones to half of times x + plus.
func half(times, plus int) api.Rule { return ruleOf(2, 1, times, 0, plus) }

// shuffle returns a rule by which each number is one to which exactly one number is sent.
func shuffle() api.Rule { return ruleOf(3, 2, 4, 4, 0, -1, 1) }

// grow returns the rule with the fewest factors 1 for 6, by which most numbers go far away.
func grow() api.Rule { return ruleOf(6, 19, 19, 19, 19, 19, 19, 0, -1, -2, -3, -4, 1) }

// split returns the rule by which each number has six others that are sent to it.
func split() api.Rule { return ruleOf(6, 1, 1, 1, 1, 1, 1, 0, -1, -2, -3, -4, -5) }

// knownRules returns rules of which something is known, or that reach a limit.
func knownRules() []api.Rule {
	return []api.Rule{
		half(3, 1), half(3, -1), half(5, 1), half(1, 1), half(1, -1), half(1, 49), half(3, 49), half(3, -49), half(19, 49), half(19, -49), ruleOf(2, 19, 19, 50, 49), ruleOf(2, 19, 19, -50, -49), ruleOf(2, 1, 1, 50, -49),
		shuffle(), ruleOf(3, 20, 20, 20, 48, 49, 50), ruleOf(3, 20, 20, 20, -48, -50, -49), ruleOf(3, 1, 1, 1, 0, -1, -2), ruleOf(3, 1, 2, 4, 0, 1, 1), ruleOf(3, 1, 20, 1, 48, 1, -50),
		ruleOf(4, 1, 3, 1, 3, 0, 1, 2, 3), ruleOf(4, 19, 19, 19, 19, 48, 49, 50, 47), ruleOf(5, 1, 6, 6, 6, 6, 0, 4, 3, 2, 1), ruleOf(5, 1, 1, 1, 1, 1, 0, -1, -2, -3, -4), ruleOf(5, 19, 19, 19, 19, 19, -50, -49, -48, -47, -46),
		grow(), split(), ruleOf(6, 1, 5, 7, 11, 13, 17, 48, 49, 46, 45, 50, 47), ruleOf(6, 1, 1, 1, 1, 1, 19, -48, 47, -50, 45, -46, 49),
	}
}

// areDivided reports whether two numbers have a common divisor greater than 1.
func areDivided(a, b int) bool {
	for d := 2; d <= min(a, b); d++ {
		if a%d == 0 && b%d == 0 {
			return true
		}
	}
	return false
}

// randomRule returns a rule with factors up to most, and about one factor in three 1.
func randomRule(r *rand.Rand, modulus, most int) api.Rule {
	rule := api.Rule{Modulus: modulus}
	for remainder := range modulus {
		for {
			times, plus := 1+r.IntN(most), r.IntN(2*api.MaxPlus+1)-api.MaxPlus
			if r.IntN(3) == 0 {
				times = 1
			}
			if !areDivided(times, modulus) && (times*remainder+plus)%modulus == 0 {
				rule.Times = append(rule.Times, times)
				rule.Plus = append(rule.Plus, plus)
				break
			}
		}
	}
	return rule
}

func newRandom() *rand.Rand { return rand.New(rand.NewPCG(6, 12)) }

// someRules returns the known rules, and others that are chosen at random, the same ones each time.
func someRules() []api.Rule {
	r := newRandom()
	all := knownRules()
	for modulus := 2; modulus <= api.MaxModulus; modulus++ {
		for _, most := range []int{1, 2, modulus, modulus + 1, 10, api.MaxTimes} {
			all = append(all, randomRule(r, modulus, most), randomRule(r, modulus, most))
		}
	}
	return all
}

// noRules returns what is no rule.
func noRules() []api.Rule {
	all := []api.Rule{{}, {Times: []int{1, 3}, Plus: []int{0, 1}}, {Modulus: 2}, {Modulus: 1, Times: []int{1}, Plus: []int{0}}, {Modulus: 7, Times: []int{1, 1, 1, 1, 1, 1, 1}, Plus: []int{0, -1, -2, -3, -4, -5, -6}}}
	for _, modulus := range []int{math.MinInt, -2, -1, 0, 1, 3, 4, 6, 7, 1 << 32, math.MaxInt} {
		all = append(all, api.Rule{Modulus: modulus, Times: []int{1, 3}, Plus: []int{0, 1}})
	}
	change := func(rule api.Rule, change func(rule *api.Rule)) {
		other := api.Rule{Modulus: rule.Modulus, Times: slices.Clone(rule.Times), Plus: slices.Clone(rule.Plus)}
		change(&other)
		all = append(all, other)
	}
	for _, rule := range []api.Rule{half(3, 1), shuffle(), split(), ruleOf(4, 1, 3, 1, 3, 0, 1, 2, 3), ruleOf(5, 1, 6, 6, 6, 6, 0, 4, 3, 2, 1)} {
		m := rule.Modulus
		change(rule, func(rule *api.Rule) { rule.Times = nil })
		change(rule, func(rule *api.Rule) { rule.Plus = nil })
		change(rule, func(rule *api.Rule) { rule.Times = rule.Times[1:] })
		change(rule, func(rule *api.Rule) { rule.Plus = rule.Plus[:m-1] })
		change(rule, func(rule *api.Rule) { rule.Times = append(rule.Times, 1) })
		change(rule, func(rule *api.Rule) { rule.Plus = append(rule.Plus, 0) })
		change(rule, func(rule *api.Rule) { rule.Times = slices.Repeat(rule.Times, 10000) })
		change(rule, func(rule *api.Rule) { rule.Plus = slices.Repeat(rule.Plus, 10000) })
		change(rule, func(rule *api.Rule) { rule.Modulus++ })
		for at := range m {
			// What would do but for one bound: m divides the sums.
			for _, times := range []int{-m, 0, m, 2 * m, 1 - m, 1 - 2*m, 20*m + 1, 30 * m, 60, math.MinInt, math.MaxInt} {
				change(rule, func(rule *api.Rule) {
					rule.Times[at] = times
					rule.Plus[at] = -(times % m) * at % m
				})
			}
			for _, plus := range []int{rule.Plus[at] + 1, rule.Plus[at] - 1, rule.Plus[at] + 51*m, rule.Plus[at] - 51*m, math.MinInt, math.MaxInt} {
				change(rule, func(rule *api.Rule) { rule.Plus[at] = plus })
			}
		}
	}
	return append(all, half(21, 1), half(20, 2), ruleOf(2, 1, 3, 0, 51), ruleOf(2, 1, 3, 0, -51), ruleOf(2, 1, 3, 52, 1), ruleOf(2, 1, 3, -52, 1), ruleOf(2, 1, 2, 0, 0), ruleOf(2, 2, 3, 0, 1), ruleOf(3, 1, 3, 1, 0, 0, 1), ruleOf(3, 21, 1, 1, 0, -1, 1), ruleOf(4, 1, 1, 2, 1, 0, -1, 0, 1), ruleOf(6, 1, 1, 1, 4, 1, 1, 0, -1, -2, 0, -4, 1), ruleOf(6, 1, 1, 3, 1, 1, 1, 0, -1, 0, -3, -4, 1))
}

// largeNumbers returns numbers that are large.
func largeNumbers() []int {
	return []int{math.MinInt, math.MinInt + 1, -1 << 41, -api.MaxNumber - 1, api.MaxNumber + 1, 1 << 41, math.MaxInt - 1, math.MaxInt}
}

// someNumbers returns numbers that are not large, those around 0, at the limits, and others in between.
func someNumbers() []int {
	var all []int
	for x := -20; x <= 20; x++ {
		all = append(all, x)
	}
	r := newRandom()
	for size := 100; size < api.MaxNumber; size *= 7 {
		all = append(all, r.IntN(size), -r.IntN(size))
	}
	for less := range 7 {
		all = append(all, api.MaxNumber-less, less-api.MaxNumber)
	}
	return all
}

func isLarge(number int) bool { return max(number, -number) > 1<<40 }

// next returns the number to which a number is sent: of m q + r, ar q and what r alone gives.
func next(rule api.Rule, x int) int {
	for r := range rule.Modulus {
		if (x-r)%rule.Modulus == 0 {
			return rule.Times[r]*((x-r)/rule.Modulus) + (rule.Times[r]*r+rule.Plus[r])/rule.Modulus
		}
	}
	panic("no remainder")
}

// after returns x and the numbers after it, up to steps of them, and without those behind one that is large.
func after(rule api.Rule, x, steps int) []int {
	list := []int{x}
	for len(list) <= steps && !isLarge(x) {
		x = next(rule, x)
		list = append(list, x)
	}
	return list
}

// firstAgain returns the position of the first number of a list that came before, or the length if there is none.
func firstAgain(list []int) int {
	for i, number := range list {
		if slices.Contains(list[:i], number) {
			return i
		}
	}
	return len(list)
}

// orbitOf returns what Orbit is.
func orbitOf(rule api.Rule, x, steps int) ([]int, api.Errno) {
	list := after(rule, x, steps)
	again := firstAgain(list)
	if again < len(list) {
		return list[:again+1], api.OK
	}
	if isLarge(list[len(list)-1]) {
		return nil, api.ErrFull
	}
	return list, api.OK
}

// cycleOf returns what Cycle is.
func cycleOf(rule api.Rule, x, steps int) ([]int, int, api.Errno) {
	list := after(rule, x, steps)
	again := firstAgain(list)
	if again == len(list) {
		if isLarge(list[again-1]) {
			return nil, 0, api.ErrFull
		}
		return nil, 0, api.ErrNone
	}
	first := slices.Index(list, list[again])
	cycle := slices.Clone(list[first:again])
	for cycle[0] != slices.Min(cycle) {
		cycle = append(cycle[1:], cycle[0])
	}
	return cycle, first, api.OK
}

// courseOf returns the course of a number of any size.
func courseOf(rule api.Rule, x *big.Int, k int) []int {
	var course []int
	for range k {
		course = append(course, int(new(big.Int).Mod(x, big.NewInt(int64(rule.Modulus))).Int64()))
		x = sentBig(rule, x, 1)
	}
	return course
}

// sentBig returns where a number of any size is sent in some steps.
func sentBig(rule api.Rule, x *big.Int, steps int) *big.Int {
	m := big.NewInt(int64(rule.Modulus))
	for range steps {
		quotient, remainder := new(big.Int).DivMod(x, m, new(big.Int))
		r := int(remainder.Int64())
		x = quotient.Mul(quotient, big.NewInt(int64(rule.Times[r])))
		x.Add(x, big.NewInt(int64((rule.Times[r]*r+rule.Plus[r])/rule.Modulus)))
	}
	return x
}

// stepsBack returns A, B and D of the form of a course, B as the sum of what each remainder adds, multiplied by the factors behind it and the moduli before it.
func stepsBack(rule api.Rule, course []int) (a, b, d *big.Int) {
	product := func(numbers ...int) *big.Int {
		all := big.NewInt(1)
		for _, number := range numbers {
			all.Mul(all, big.NewInt(int64(number)))
		}
		return all
	}
	var times []int
	for _, r := range course {
		times = append(times, rule.Times[r])
	}
	b = new(big.Int)
	for i, r := range course {
		moduli := slices.Repeat([]int{rule.Modulus}, i)
		b.Add(b, product(slices.Concat(moduli, []int{rule.Plus[r]}, times[i+1:])...))
	}
	return product(times...), b, product(slices.Repeat([]int{rule.Modulus}, len(course))...)
}

// allCourses returns all courses of length k for a modulus, in lexicographic order.
func allCourses(modulus, k int) [][]int {
	courses := [][]int{nil}
	for range k {
		var longer [][]int
		for _, course := range courses {
			for r := range modulus {
				longer = append(longer, append(slices.Clone(course), r))
			}
		}
		courses = longer
	}
	return courses
}

// someCourses returns the short courses for a modulus, and courses of each length that are chosen at random.
func someCourses(modulus int) [][]int {
	var all [][]int
	for k := range 4 {
		all = append(all, allCourses(modulus, k)...)
	}
	r := newRandom()
	for k := 4; k <= api.MaxCourse; k++ {
		for range 5 {
			var course []int
			for range k {
				course = append(course, r.IntN(modulus))
			}
			all = append(all, course)
		}
		all = append(all, make([]int, k), slices.Repeat([]int{modulus - 1}, k))
	}
	return all
}

// noCourses returns lists that are no course for a modulus.
func noCourses(modulus int) [][]int {
	all := [][]int{make([]int, api.MaxCourse+1), make([]int, 2*api.MaxCourse), make([]int, 1000000)}
	for _, remainder := range []int{math.MinInt, -modulus, -1, modulus, modulus + 1, 1 << 32, math.MaxInt} {
		for length := 1; length <= api.MaxCourse; length++ {
			for _, at := range []int{0, length / 2, length - 1} {
				course := make([]int, length)
				course[at] = remainder
				all = append(all, course)
			}
		}
	}
	return all
}

// brief writes an argument that may be long.
func brief(value any) string { return fmt.Sprintf("%.150s", fmt.Sprint(value)) }
