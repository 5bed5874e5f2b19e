package wheel_test

import (
	"math"
	"math/big"
	"slices"
	"testing"

	"remould/api"
	"remould/wheel"
)

// fallsOf counts courses by the number of times that each remainder occurs, in as many orders as there are; from is the first remainder that may occur in the k that are left.
func fallsOf(rule api.Rule, from, k int, a, d *big.Int) int64 {
	if from == rule.Modulus {
		if k == 0 && a.Cmp(d) < 0 {
			return 1
		}
		return 0
	}
	sum := int64(0)
	for times := range k + 1 {
		orders := new(big.Int).Binomial(int64(k), int64(times)).Int64()
		sum += orders * fallsOf(rule, from+1, k-times, a, d)
		a = new(big.Int).Mul(a, big.NewInt(int64(rule.Times[from])))
	}
	return sum
}

// P6.4: Falls.
func TestFallsAgainstOrders(t *testing.T) {
	for _, rule := range someRules() {
		for k := range api.MaxCourse + 1 {
			d := new(big.Int).Exp(big.NewInt(int64(rule.Modulus)), big.NewInt(int64(k)), nil)
			want := fallsOf(rule, 0, k, big.NewInt(1), d)
			if got, e := wheel.Falls(rule, k); int64(got) != want || e != api.OK {
				t.Errorf("Falls(%v, %d) = %d, %d, want %d", rule, k, got, e, want)
			}
		}
	}
}

// P6.4: the courses themselves.
func TestFallsAgainstAllCourses(t *testing.T) {
	for _, rule := range someRules() {
		for k := range 6 {
			want := 0
			for _, course := range allCourses(rule.Modulus, k) {
				if a, _, d := stepsBack(rule, course); a.Cmp(d) < 0 {
					want++
				}
			}
			if got, e := wheel.Falls(rule, k); got != want || e != api.OK {
				t.Errorf("Falls(%v, %d) = %d, %d, want %d", rule, k, got, e, want)
			}
		}
	}
}

func TestFallsOfExamples(t *testing.T) {
	cases := []struct {
		rule api.Rule
		k    int
		want int
	}{
		{half(3, 1), 0, 0}, {half(3, 1), 1, 1}, {half(3, 1), 2, 3}, {half(3, 1), 3, 4}, {half(3, 1), 4, 11}, {half(3, 1), 12, 3302}, // at most 7 of 12 remainders 1
		{split(), 0, 0}, {split(), 1, 6}, {split(), 12, 2176782336}, {grow(), 1, 0}, {grow(), 12, 0}, {ruleOf(2, 19, 19, 50, 49), 12, 0}, {ruleOf(5, 1, 6, 6, 6, 6, 0, 4, 3, 2, 1), 12, 177031761}, // at most 10 of 12 with the factor 6
	}
	for _, c := range cases {
		if got, e := wheel.Falls(c.rule, c.k); got != c.want || e != api.OK {
			t.Errorf("Falls(%v, %d) = %d, %d, want %d", c.rule, c.k, got, e, c.want)
		}
	}
}

// backTo returns the numbers that are sent to y, by a look at those around the one that each remainder would have.
func backTo(rule api.Rule, y int) []int {
	var all []int
	for r, times := range rule.Times {
		around := (rule.Modulus*y - rule.Plus[r]) / times
		for x := around - 2; x <= around+2; x++ {
			if next(rule, x) == y {
				all = append(all, x)
			}
		}
	}
	slices.Sort(all)
	return slices.Compact(all)
}

// P6.4: Back.
func TestBackAgainstNumbersAround(t *testing.T) {
	outcomes := map[api.Errno]int{}
	for _, rule := range someRules() {
		numbers := someNumbers()
		for less := -3; less <= 3; less++ {
			for r, times := range rule.Times {
				edge := (api.MaxNumber*times + rule.Plus[r]) / rule.Modulus
				numbers = append(numbers, min(edge-less, api.MaxNumber), max(less-edge, -api.MaxNumber))
			}
		}
		for _, y := range numbers {
			want, wantE := backTo(rule, y), api.OK
			if slices.ContainsFunc(want, isLarge) {
				want, wantE = nil, api.ErrFull
			}
			outcomes[wantE]++
			if got, e := wheel.Back(rule, y); !slices.Equal(got, want) || e != wantE {
				t.Errorf("Back(%v, %d) = %v, %d, want %v, %d", rule, y, got, e, want, wantE)
			}
		}
	}
	if outcomes[api.OK] < 1000 || outcomes[api.ErrFull] < 500 {
		t.Errorf("the errors are %v", outcomes)
	}
}

// P6.4: all numbers that can be sent to those around 0.
func TestBackAgainstAllNumbers(t *testing.T) {
	const size = 60
	for _, rule := range someRules() {
		all := map[int][]int{}
		for x := -rule.Modulus*size - 50; x <= rule.Modulus*size+50; x++ {
			y := next(rule, x)
			all[y] = append(all[y], x)
		}
		for y := -size; y <= size; y++ {
			if got, e := wheel.Back(rule, y); !slices.Equal(got, all[y]) || e != api.OK {
				t.Errorf("Back(%v, %d) = %v, %d, want %v", rule, y, got, e, all[y])
			}
		}
	}
}

func TestBackOfExamples(t *testing.T) {
	cases := []struct {
		rule api.Rule
		y    int
		want []int
		e    api.Errno
	}{
		{half(3, 1), 0, []int{0}, api.OK}, {half(3, 1), 1, []int{2}, api.OK}, {half(3, 1), 2, []int{1, 4}, api.OK}, {half(3, 1), 5, []int{3, 10}, api.OK}, {half(3, 1), -1, []int{-2, -1}, api.OK}, {half(3, 1), -10, []int{-20, -7}, api.OK},
		{grow(), 1, nil, api.OK}, {grow(), 2, nil, api.OK}, {grow(), 19, []int{6}, api.OK}, {split(), 2, []int{12, 13, 14, 15, 16, 17}, api.OK}, {split(), -1, []int{-6, -5, -4, -3, -2, -1}, api.OK}, {shuffle(), 7, []int{5}, api.OK},
		{half(1, 1), 1 << 39, []int{1<<40 - 1, 1 << 40}, api.OK}, {half(1, 1), 1<<39 + 1, nil, api.ErrFull}, {half(1, 1), -1 << 39, nil, api.ErrFull}, {half(1, 1), 1 - 1<<39, []int{1 - 1<<40, 2 - 1<<40}, api.OK},
	}
	for _, c := range cases {
		if got, e := wheel.Back(c.rule, c.y); !slices.Equal(got, c.want) || e != c.e {
			t.Errorf("Back(%v, %d) = %v, %d, want %v, %d", c.rule, c.y, got, e, c.want, c.e)
		}
	}
}

// setsOf returns the numbers that are sent to y in 0, 1, 2 and more steps, up to the first depth at which one is large or there are too many.
func setsOf(rule api.Rule, y, depth int) ([]int, api.Errno) {
	sets := [][]int{{y}}
	var counts []int
	for i := 0; ; i++ {
		if len(sets[i]) > 10000 || slices.ContainsFunc(sets[i], isLarge) {
			return nil, api.ErrFull
		}
		counts = append(counts, len(sets[i]))
		if i == depth {
			return counts, api.OK
		}
		var farther []int
		for _, number := range sets[i] {
			farther = append(farther, backTo(rule, number)...)
		}
		sets = append(sets, farther)
	}
}

// P6.4: Sets.
func TestSetsAgainstNumbersAround(t *testing.T) {
	outcomes := map[api.Errno]int{}
	for _, rule := range someRules() {
		for i, y := range someNumbers() {
			// Many numbers are sent to each by rules with small factors.
			depths := []int{0, 1, 2, 3}
			if i%9 == 0 {
				depths = append(depths, 5, 7, 8)
			}
			for _, depth := range depths {
				want, wantE := setsOf(rule, y, depth)
				outcomes[wantE]++
				if got, e := wheel.Sets(rule, y, depth); !slices.Equal(got, want) || e != wantE {
					t.Errorf("Sets(%v, %d, %d) = %v, %d, want %v, %d", rule, y, depth, got, e, want, wantE)
				}
			}
		}
	}
	if outcomes[api.OK] < 1000 || outcomes[api.ErrFull] < 500 {
		t.Errorf("the errors are %v", outcomes)
	}
}

// P6.4: a number may be sent to another one by several numbers of steps, and each of them counts.
func TestSetsAgainstAllNumbers(t *testing.T) {
	const size, depth = 9, 4
	for _, rule := range someRules() {
		var counts [depth + 1][2*size + 1]int
		reach := size
		for range depth {
			reach = reach*rule.Modulus + 50
		}
		for x := -reach; x <= reach; x++ {
			for i, number := range after(rule, x, depth) {
				if -size <= number && number <= size {
					counts[i][number+size]++
				}
			}
		}
		for y := -size; y <= size; y++ {
			var want []int
			for i := range counts {
				want = append(want, counts[i][y+size])
			}
			if got, e := wheel.Sets(rule, y, depth); !slices.Equal(got, want) || e != api.OK {
				t.Errorf("Sets(%v, %d, %d) = %v, %d, want %v", rule, y, depth, got, e, want)
			}
		}
	}
}

func TestSetsOfExamples(t *testing.T) {
	// As many numbers as there may be at a depth, and one more.
	limit, beyond := ruleOf(5, 14, 1, 1, 8, 1, 50, -41, -17, -39, -9), ruleOf(5, 1, 19, 17, 1, 1, -30, -49, 46, 27, 46)
	cases := []struct {
		rule     api.Rule
		y, depth int
		want     []int
		e        api.Errno
	}{
		{half(3, 1), 1, 0, []int{1}, api.OK}, {half(3, 1), 1, 4, []int{1, 1, 2, 2, 4}, api.OK}, {half(3, 1), 0, 8, []int{1, 1, 1, 1, 1, 1, 1, 1, 1}, api.OK}, {half(3, 1), -1, 3, []int{1, 2, 3, 5}, api.OK}, {half(1, 1), 5, 8, []int{1, 2, 4, 8, 16, 32, 64, 128, 256}, api.OK},
		{grow(), 1, 3, []int{1, 0, 0, 0}, api.OK}, {shuffle(), 12, 8, []int{1, 1, 1, 1, 1, 1, 1, 1, 1}, api.OK}, {split(), 0, 5, []int{1, 6, 36, 216, 1296, 7776}, api.OK}, {split(), 0, 6, nil, api.ErrFull}, {split(), 0, 8, nil, api.ErrFull}, {ruleOf(3, 1, 1, 1, 0, -1, -2), 0, 8, []int{1, 3, 9, 27, 81, 243, 729, 2187, 6561}, api.OK},
		{limit, 984, 8, []int{1, 3, 9, 28, 84, 263, 1033, 3271, 10000}, api.OK}, {beyond, 406, 8, nil, api.ErrFull},
		{half(1, 1), api.MaxNumber, 0, []int{1}, api.OK}, {half(1, 1), api.MaxNumber, 1, nil, api.ErrFull}, {half(1, 1), 1 << 33, 7, []int{1, 2, 4, 8, 16, 32, 64, 128}, api.OK}, {half(1, 1), 1 << 33, 8, nil, api.ErrFull}, {half(1, 1), -1 << 32, 7, []int{1, 2, 4, 8, 16, 32, 64, 128}, api.OK}, {half(1, 1), -1 << 32, 8, nil, api.ErrFull},
	}
	for _, c := range cases {
		if got, e := wheel.Sets(c.rule, c.y, c.depth); !slices.Equal(got, c.want) || e != c.e {
			t.Errorf("Sets(%v, %d, %d) = %v, %d, want %v, %d", c.rule, c.y, c.depth, got, e, c.want, c.e)
		}
	}
	if got, e := wheel.Sets(beyond, 406, 7); len(got) != 8 || e != api.OK {
		t.Errorf("Sets(%v, 406, 7) = %v, %d", beyond, got, e)
	}
}

func TestCountingWithInvalidArguments(t *testing.T) {
	refuseFalls := func(rule api.Rule, k int) {
		t.Helper()
		if got, e := wheel.Falls(rule, k); got != 0 || e != api.ErrArg {
			t.Errorf("Falls(%s, %d) = %d, %d", brief(rule), k, got, e)
		}
	}
	refuseBack := func(rule api.Rule, y int) {
		t.Helper()
		if got, e := wheel.Back(rule, y); len(got) != 0 || e != api.ErrArg {
			t.Errorf("Back(%s, %d) = %v, %d", brief(rule), y, got, e)
		}
	}
	refuseSets := func(rule api.Rule, y, depth int) {
		t.Helper()
		if got, e := wheel.Sets(rule, y, depth); len(got) != 0 || e != api.ErrArg {
			t.Errorf("Sets(%s, %d, %d) = %v, %d", brief(rule), y, depth, got, e)
		}
	}
	for _, rule := range noRules() {
		for _, number := range []int{-1, 0, 1, 3, 8, 12, 13} {
			refuseFalls(rule, number)
			refuseBack(rule, number)
			refuseSets(rule, number, 3)
			refuseSets(rule, 3, number)
		}
	}
	for _, rule := range knownRules() {
		for _, y := range largeNumbers() {
			refuseBack(rule, y)
			refuseSets(rule, y, 0)
			refuseSets(rule, y, 3)
			refuseSets(rule, y, -1)
		}
		for _, depth := range []int{math.MinInt, -8, -1, api.MaxDepth + 1, 10, 64, 1 << 32, math.MaxInt} {
			refuseSets(rule, 1, depth)
		}
		for _, k := range []int{math.MinInt, -12, -1, api.MaxCourse + 1, 14, 64, 1 << 32, math.MaxInt} {
			refuseFalls(rule, k)
		}
	}
}
