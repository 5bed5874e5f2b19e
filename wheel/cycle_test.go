package wheel_test

import (
	"cmp"
	"math"
	"slices"
	"testing"

	"remould/api"
	"remould/wheel"
)

// P6.3: Cycle.
func TestCycleAgainstLists(t *testing.T) {
	outcomes := map[api.Errno]int{}
	longest := 0
	for _, rule := range someRules() {
		for _, x := range someNumbers() {
			for _, steps := range someSteps() {
				want, wantBefore, wantE := cycleOf(rule, x, steps)
				outcomes[wantE]++
				longest = max(longest, len(want))
				if got, before, e := wheel.Cycle(rule, x, steps); !slices.Equal(got, want) || before != wantBefore || e != wantE {
					t.Errorf("Cycle(%v, %d, %d) = %s, %d, %d, want %s, %d, %d", rule, x, steps, brief(got), before, e, brief(want), wantBefore, wantE)
				}
			}
		}
	}
	if outcomes[api.OK] < 1000 || outcomes[api.ErrFull] < 1000 || outcomes[api.ErrNone] < 1000 || longest < 20 {
		t.Errorf("the errors are %v, the longest cycle has %d numbers", outcomes, longest)
	}
}

func TestCycleOfExamples(t *testing.T) {
	cases := []struct {
		rule     api.Rule
		x, steps int
		want     []int
		before   int
		e        api.Errno
	}{
		{half(3, 1), 1, 500, []int{1, 2}, 0, api.OK}, {half(3, 1), 2, 500, []int{1, 2}, 0, api.OK}, {half(3, 1), 1, 2, []int{1, 2}, 0, api.OK}, {half(3, 1), 1, 1, nil, 0, api.ErrNone}, {half(3, 1), 1, 0, nil, 0, api.ErrNone}, {half(3, 1), 0, 0, nil, 0, api.ErrNone}, {half(3, 1), 0, 1, []int{0}, 0, api.OK},
		{half(3, 1), 3, 6, []int{1, 2}, 4, api.OK}, {half(3, 1), 3, 5, nil, 0, api.ErrNone}, {half(3, 1), -7, 3, []int{-10, -5, -7}, 0, api.OK}, {half(3, 1), -5, 500, []int{-10, -5, -7}, 0, api.OK}, {half(3, 1), -20, 4, []int{-10, -5, -7}, 1, api.OK},
		{half(3, 1), -17, 500, []int{-136, -68, -34, -17, -25, -37, -55, -82, -41, -61, -91}, 0, api.OK}, {half(5, 1), 13, 500, []int{13, 33, 83, 208, 104, 52, 26}, 0, api.OK},
		{shuffle(), 9, 5, []int{4, 5, 7, 9, 6}, 0, api.OK}, {shuffle(), 9, 4, nil, 0, api.ErrNone}, {shuffle(), 44, 12, []int{44, 59, 79, 105, 70, 93, 62, 83, 111, 74, 99, 66}, 0, api.OK}, {shuffle(), 44, 11, nil, 0, api.ErrNone},
		// 1 after 499 steps, and 2 both before it and after it
		{half(3, 1), 66286199821, 500, []int{1, 2}, 498, api.OK}, {half(3, 1), 66286199821, 499, nil, 0, api.ErrNone}, {half(3, 1), 63728127, 500, nil, 0, api.ErrNone},
		{ruleOf(2, 19, 19, 0, 1), 1 << 36, 1, nil, 0, api.ErrNone}, {ruleOf(2, 19, 19, 0, 1), 1 << 36, 2, nil, 0, api.ErrFull}, {ruleOf(2, 19, 19, 0, 1), -1 << 36, 500, nil, 0, api.ErrFull}, {half(3, 1), api.MaxNumber - 1, 0, nil, 0, api.ErrNone}, {half(3, 1), api.MaxNumber - 1, 1, nil, 0, api.ErrFull},
		{half(3, 1), api.MaxNumber, 500, []int{1, 2}, 39, api.OK}, {half(3, 1), -api.MaxNumber, 500, []int{-1}, 40, api.OK}, {half(3, -1), -api.MaxNumber, 41, []int{-2, -1}, 39, api.OK}, {half(3, -1), -api.MaxNumber, 40, nil, 0, api.ErrNone},
	}
	for _, c := range cases {
		if got, before, e := wheel.Cycle(c.rule, c.x, c.steps); !slices.Equal(got, c.want) || before != c.before || e != c.e {
			t.Errorf("Cycle(%v, %d, %d) = %v, %d, %d, want %v, %d, %d", c.rule, c.x, c.steps, got, before, e, c.want, c.before, c.e)
		}
	}
}

// cyclesOf returns what Cycles is.
func cyclesOf(rule api.Rule, low, high, steps int) [][]int {
	var cycles [][]int
	for x := low; x <= high; x++ {
		if cycle, _, e := cycleOf(rule, x, steps); e == api.OK {
			cycles = append(cycles, cycle)
		}
	}
	slices.SortFunc(cycles, func(a, b []int) int { return cmp.Compare(a[0], b[0]) })
	return slices.CompactFunc(cycles, slices.Equal[[]int])
}

// P6.3: Cycles.
func TestCyclesAgainstLists(t *testing.T) {
	most := 0
	for _, rule := range someRules() {
		for _, c := range [][3]int{{-250, 250, 500}, {-250, 250, 40}, {0, 500, 12}, {-40, 40, 5}, {-40, 40, 2}, {-3, 3, 1}, {-9, 9, 0}, {1, 1, 500}, {-17, -17, 30}, {api.MaxNumber - 60, api.MaxNumber, 80}, {-api.MaxNumber, 60 - api.MaxNumber, 80}} {
			want := cyclesOf(rule, c[0], c[1], c[2])
			most = max(most, len(want))
			if got, e := wheel.Cycles(rule, c[0], c[1], c[2]); !slices.EqualFunc(got, want, slices.Equal[[]int]) || e != api.OK {
				t.Errorf("Cycles(%v, %v) = %s, %d, want %s", rule, c, brief(got), e, brief(want))
			}
		}
	}
	if most < 8 {
		t.Errorf("no rule has more than %d cycles", most)
	}
}

func TestCyclesOfExamples(t *testing.T) {
	cases := []struct {
		rule             api.Rule
		low, high, steps int
		want             [][]int
	}{
		{half(3, 1), 1, 500, 500, [][]int{{1, 2}}}, {half(3, 1), 0, 500, 500, [][]int{{0}, {1, 2}}}, {half(3, 1), -10, 10, 500, [][]int{{-10, -5, -7}, {-1}, {0}, {1, 2}}}, {half(3, 1), -10, 10, 2, [][]int{{-1}, {0}, {1, 2}}}, {half(3, 1), -10, 10, 0, nil}, {half(3, 1), 3, 3, 5, nil}, {half(3, 1), 3, 3, 6, [][]int{{1, 2}}}, {half(3, 1), 27, 27, 500, [][]int{{1, 2}}},
		{half(3, 1), -250, 250, 500, [][]int{{-136, -68, -34, -17, -25, -37, -55, -82, -41, -61, -91}, {-10, -5, -7}, {-1}, {0}, {1, 2}}},
		{half(5, 1), 1, 60, 500, [][]int{{1, 3, 8, 4, 2}, {13, 33, 83, 208, 104, 52, 26}, {17, 43, 108, 54, 27, 68, 34}}}, // numbers that go far away are left out
		{shuffle(), -7, 10, 500, [][]int{{-9, -6, -4, -5, -7}, {-3, -2}, {-1}, {0}, {1}, {2, 3}, {4, 5, 7, 9, 6}}},
		{half(1, 1), api.MaxNumber - 500, api.MaxNumber, 500, [][]int{{1}}}, {half(1, 1), -api.MaxNumber, 500 - api.MaxNumber, 500, [][]int{{0}}}, {grow(), 1 << 39, 1<<39 + 500, 500, nil},
	}
	for _, c := range cases {
		if got, e := wheel.Cycles(c.rule, c.low, c.high, c.steps); !slices.EqualFunc(got, c.want, slices.Equal[[]int]) || e != api.OK {
			t.Errorf("Cycles(%v, %d, %d, %d) = %v, %d, want %v", c.rule, c.low, c.high, c.steps, got, e, c.want)
		}
	}
}

// wholeOf returns the smallest numbers of cycles of k numbers, by all fractions that courses of k remainders leave where they are.
func wholeOf(rule api.Rule, k int) []int {
	var smallest []int
	for _, course := range allCourses(rule.Modulus, k) {
		a, b, d := stepsBack(rule, course)
		x := fracOf(b, d.Sub(d, a))
		if x.Den > 1 {
			continue
		}
		cycle, before, e := cycleOf(rule, x.Num, k)
		if e == api.OK && before == 0 && len(cycle) == k {
			smallest = append(smallest, cycle[0])
		}
	}
	slices.Sort(smallest)
	return slices.Compact(smallest)
}

// P6.3: Whole.
func TestWholeAgainstFractions(t *testing.T) {
	var numbers [api.MaxWhole + 1]int
	for _, rule := range someRules() {
		for k := 1; k <= api.MaxWhole; k++ {
			want := wholeOf(rule, k)
			numbers[k] += len(want)
			if got, e := wheel.Whole(rule, k); !slices.Equal(got, want) || e != api.OK {
				t.Errorf("Whole(%v, %d) = %v, %d, want %v", rule, k, got, e, want)
			}
		}
	}
	if slices.Min(numbers[1:]) < 5 {
		t.Errorf("there are %v cycles", numbers)
	}
}

// P6.3: Whole has all cycles of the numbers around 0.
func TestWholeAgainstNumbers(t *testing.T) {
	const size = 3000
	for _, rule := range someRules() {
		var want [api.MaxWhole + 1][]int
		for x := -size; x <= size; x++ {
			list := after(rule, x, api.MaxWhole)
			k := firstAgain(list)
			if k < len(list) && list[k] == x && slices.Min(list[:k]) == x {
				want[k] = append(want[k], x)
			}
		}
		for k := 1; k <= api.MaxWhole; k++ {
			got, e := wheel.Whole(rule, k)
			for _, x := range got {
				list := after(rule, x, k)
				if list[k] != x || slices.Min(list) != x || firstAgain(list) != k {
					t.Errorf("Whole(%v, %d) = %v, but %d goes to %v", rule, k, got, x, list)
				}
			}
			near := slices.DeleteFunc(got, func(x int) bool { return x < -size || x > size })
			if !slices.Equal(near, want[k]) || e != api.OK {
				t.Errorf("Whole(%v, %d) has %v, %d around 0, want %v", rule, k, near, e, want[k])
			}
		}
	}
}

func TestWholeOfExamples(t *testing.T) {
	cases := []struct {
		rule api.Rule
		want [][]int
	}{
		{half(3, 1), [][]int{{-1, 0}, {1}, {-10}, nil, nil}}, {half(3, -1), [][]int{{0, 1}, {-2}, {5}, nil, nil}}, {half(5, 1), [][]int{{0}, {-2}, nil, nil, {1}}}, {half(3, 49), [][]int{{-49, 0}, {49}, {-490}, {35}, {-130}}},
		{shuffle(), [][]int{{-1, 0, 1}, {-3, 2}, nil, nil, {-9, 4}}}, {split(), [][]int{{-1, 0}, nil, nil, nil, nil}}, {half(1, 1), [][]int{{0, 1}, nil, nil, nil, nil}}, {ruleOf(2, 1, 1, 50, -49), [][]int{{-49, 50}, {-16}, nil, nil, nil}},
		{ruleOf(4, 1, 3, 1, 3, 0, 1, 2, 3), [][]int{{0, 1, 3}, nil, nil, nil, nil}}, {ruleOf(5, 1, 6, 6, 6, 6, 0, 4, 3, 2, 1), [][]int{{-4, -3, -2, -1, 0}, nil, nil, nil, {1}}},
	}
	for _, c := range cases {
		for i, want := range c.want {
			if got, e := wheel.Whole(c.rule, i+1); !slices.Equal(got, want) || e != api.OK {
				t.Errorf("Whole(%v, %d) = %v, %d, want %v", c.rule, i+1, got, e, want)
			}
		}
	}
}

func TestCyclesWithInvalidArguments(t *testing.T) {
	refuseCycle := func(rule api.Rule, x, steps int) {
		t.Helper()
		if got, before, e := wheel.Cycle(rule, x, steps); len(got) != 0 || before != 0 || e != api.ErrArg {
			t.Errorf("Cycle(%s, %d, %d) = %s, %d, %d", brief(rule), x, steps, brief(got), before, e)
		}
	}
	refuseCycles := func(rule api.Rule, low, high, steps int) {
		t.Helper()
		if got, e := wheel.Cycles(rule, low, high, steps); len(got) != 0 || e != api.ErrArg {
			t.Errorf("Cycles(%s, %d, %d, %d) = %s, %d", brief(rule), low, high, steps, brief(got), e)
		}
	}
	refuseWhole := func(rule api.Rule, k int) {
		t.Helper()
		if got, e := wheel.Whole(rule, k); len(got) != 0 || e != api.ErrArg {
			t.Errorf("Whole(%s, %d) = %s, %d", brief(rule), k, brief(got), e)
		}
	}
	for _, rule := range noRules() {
		for _, steps := range []int{-1, 0, 5, 500, 501} {
			refuseCycle(rule, 1, steps)
			refuseCycles(rule, 1, 2, steps)
			refuseWhole(rule, steps)
		}
		for k := range api.MaxWhole + 1 {
			refuseWhole(rule, k)
		}
	}
	for _, rule := range knownRules() {
		for _, steps := range noSteps() {
			refuseCycle(rule, 1, steps)
			refuseCycles(rule, 1, 2, steps)
			refuseCycles(rule, 2, 1, steps)
		}
		for _, x := range largeNumbers() {
			refuseCycle(rule, x, 5)
			refuseCycles(rule, x, x, 5)
			refuseCycles(rule, 0, x, 5)
			refuseCycles(rule, x, 0, 5)
			refuseCycles(rule, x, max(x, 1-api.MaxNumber), 5)
			refuseCycles(rule, min(x, api.MaxNumber-1), x, 5)
		}
		for _, ends := range [][2]int{{1, 0}, {0, 501}, {-250, 251}, {-251, 250}, {5, -5}, {-api.MaxNumber, api.MaxNumber}, {api.MaxNumber, -api.MaxNumber}, {math.MinInt, math.MaxInt}, {math.MaxInt, math.MinInt}, {math.MaxInt, math.MinInt + 10}, {api.MaxNumber - 1, api.MaxNumber + 1}, {-api.MaxNumber - 1, 1 - api.MaxNumber}} {
			refuseCycles(rule, ends[0], ends[1], 5)
		}
		for _, k := range []int{math.MinInt, -5, -1, 0, api.MaxWhole + 1, 7, 12, 64, 1 << 32, math.MaxInt} {
			refuseWhole(rule, k)
		}
	}
}
