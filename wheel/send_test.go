package wheel_test

import (
	"math"
	"math/big"
	"slices"
	"testing"

	"remould/api"
	"remould/wheel"
)

// P6.1: Send.
func TestSendAgainstRemainders(t *testing.T) {
	full := 0
	for _, rule := range someRules() {
		for _, x := range someNumbers() {
			want, wantE := next(rule, x), api.OK
			if isLarge(want) {
				want, wantE = 0, api.ErrFull
				full++
			}
			if got, e := wheel.Send(rule, x); got != want || e != wantE {
				t.Errorf("Send(%v, %d) = %d, %d, want %d, %d", rule, x, got, e, want, wantE)
			}
		}
	}
	if full == 0 {
		t.Error("no number is sent too far")
	}
}

func TestSendOfExamples(t *testing.T) {
	third := (1<<41 + 1) / 3 // 3 of it are 2^41 + 1
	cases := []struct {
		rule api.Rule
		x    int
		want int
		e    api.Errno
	}{
		{half(3, 1), 7, 11, api.OK}, {half(3, 1), 3, 5, api.OK}, {half(3, 1), 0, 0, api.OK}, {half(3, 1), 1, 2, api.OK}, {half(3, 1), 2, 1, api.OK},
		{half(3, 1), -1, -1, api.OK}, {half(3, 1), -2, -1, api.OK}, {half(3, 1), -5, -7, api.OK}, {half(3, 1), -7, -10, api.OK}, {half(3, 1), -10, -5, api.OK},
		{shuffle(), 4, 5, api.OK}, {shuffle(), 5, 7, api.OK}, {shuffle(), 7, 9, api.OK}, {shuffle(), 9, 6, api.OK}, {shuffle(), 6, 4, api.OK}, {shuffle(), -1, -1, api.OK}, {shuffle(), -2, -3, api.OK}, {shuffle(), -3, -2, api.OK},
		{split(), 12, 2, api.OK}, {split(), 17, 2, api.OK}, {split(), -1, -1, api.OK}, {split(), -6, -1, api.OK}, {split(), -7, -2, api.OK},
		{half(3, 1), api.MaxNumber, 1 << 39, api.OK}, {half(3, 1), -api.MaxNumber, -1 << 39, api.OK}, {half(3, 1), api.MaxNumber - 1, 0, api.ErrFull}, {half(3, 1), 1 - api.MaxNumber, 0, api.ErrFull},
		{half(3, -1), third, api.MaxNumber, api.OK}, {half(3, 1), third, 0, api.ErrFull}, {half(3, 1), -third, -api.MaxNumber, api.OK}, {half(3, -1), -third, 0, api.ErrFull},
		{ruleOf(3, 20, 20, 20, 48, 49, 50), api.MaxNumber, 0, api.ErrFull}, {ruleOf(3, 20, 20, 20, 48, 49, 50), -api.MaxNumber, 0, api.ErrFull},
	}
	for _, c := range cases {
		if got, e := wheel.Send(c.rule, c.x); got != c.want || e != c.e {
			t.Errorf("Send(%v, %d) = %d, %d, want %d, %d", c.rule, c.x, got, e, c.want, c.e)
		}
	}
}

// someSteps returns numbers of steps.
func someSteps() []int { return []int{0, 1, 2, 3, 4, 7, 15, 16, 50, 300, api.MaxSteps} }

// P6.1: Orbit.
func TestOrbitAgainstLists(t *testing.T) {
	outcomes := map[api.Errno]int{}
	for _, rule := range someRules() {
		for _, x := range someNumbers() {
			for _, steps := range someSteps() {
				want, wantE := orbitOf(rule, x, steps)
				outcomes[wantE]++
				if got, e := wheel.Orbit(rule, x, steps); !slices.Equal(got, want) || e != wantE {
					t.Errorf("Orbit(%v, %d, %d) = %s, %d, want %s, %d", rule, x, steps, brief(got), e, brief(want), wantE)
				}
			}
		}
	}
	if outcomes[api.OK] < 1000 || outcomes[api.ErrFull] < 1000 {
		t.Errorf("the errors are %v", outcomes)
	}
}

func TestOrbitOfExamples(t *testing.T) {
	cases := []struct {
		rule     api.Rule
		x, steps int
		want     []int
		e        api.Errno
	}{
		{half(3, 1), 1, 500, []int{1, 2, 1}, api.OK}, {half(3, 1), 1, 2, []int{1, 2, 1}, api.OK}, {half(3, 1), 1, 1, []int{1, 2}, api.OK}, {half(3, 1), 1, 0, []int{1}, api.OK}, {half(3, 1), 0, 9, []int{0, 0}, api.OK}, {half(3, 1), 0, 0, []int{0}, api.OK},
		{half(3, 1), 3, 500, []int{3, 5, 8, 4, 2, 1, 2}, api.OK}, {half(3, 1), 3, 6, []int{3, 5, 8, 4, 2, 1, 2}, api.OK}, {half(3, 1), 3, 5, []int{3, 5, 8, 4, 2, 1}, api.OK}, {half(3, 1), -5, 9, []int{-5, -7, -10, -5}, api.OK},
		{half(1, 1), api.MaxNumber, 1, []int{1 << 40, 1 << 39}, api.OK}, {half(1, 1), -api.MaxNumber, 1, []int{-1 << 40, -1 << 39}, api.OK},
		{ruleOf(2, 19, 19, 0, 1), 1 << 37, 0, []int{1 << 37}, api.OK}, {ruleOf(2, 19, 19, 0, 1), 1 << 37, 1, nil, api.ErrFull}, {ruleOf(2, 19, 19, 0, 1), 1 << 36, 1, []int{1 << 36, 19 << 35}, api.OK}, {ruleOf(2, 19, 19, 0, 1), 1 << 36, 2, nil, api.ErrFull}, {ruleOf(2, 19, 19, 0, 1), -1 << 36, 2, nil, api.ErrFull},
	}
	for _, c := range cases {
		if got, e := wheel.Orbit(c.rule, c.x, c.steps); !slices.Equal(got, c.want) || e != c.e {
			t.Errorf("Orbit(%v, %d, %d) = %v, %d, want %v, %d", c.rule, c.x, c.steps, got, e, c.want, c.e)
		}
	}
	// A number that is small, and comes to 1 after more than 500 steps.
	const long = 63728127
	if got, e := wheel.Orbit(half(3, 1), long, api.MaxSteps); len(got) != api.MaxSteps+1 || !slices.Equal(got, after(half(3, 1), long, api.MaxSteps)) || e != api.OK {
		t.Errorf("Orbit of %d = %s, %d", long, brief(got), e)
	}
}

// P6.1: Course.
func TestCourseAgainstNumbers(t *testing.T) {
	outcomes := map[api.Errno]int{}
	for _, rule := range someRules() {
		for _, x := range someNumbers() {
			for _, k := range someSteps() {
				list := after(rule, x, max(k-1, 0))
				want, wantE := courseOf(rule, big.NewInt(int64(x)), k), api.OK
				if isLarge(list[len(list)-1]) {
					want, wantE = nil, api.ErrFull
				}
				outcomes[wantE]++
				if got, e := wheel.Course(rule, x, k); !slices.Equal(got, want) || e != wantE {
					t.Errorf("Course(%v, %d, %d) = %s, %d, want %s, %d", rule, x, k, brief(got), e, brief(want), wantE)
				}
			}
		}
	}
	if outcomes[api.OK] < 1000 || outcomes[api.ErrFull] < 1000 {
		t.Errorf("the errors are %v", outcomes)
	}
}

func TestCourseOfExamples(t *testing.T) {
	cases := []struct {
		rule api.Rule
		x, k int
		want []int
		e    api.Errno
	}{
		{half(3, 1), 3, 3, []int{1, 1, 0}, api.OK}, {half(3, 1), 3, 0, nil, api.OK}, {half(3, 1), api.MaxNumber, 0, nil, api.OK}, {half(3, 1), 1, 5, []int{1, 0, 1, 0, 1}, api.OK}, {half(3, 1), -1, 4, []int{1, 1, 1, 1}, api.OK}, {half(3, 1), -10, 3, []int{0, 1, 1}, api.OK},
		{shuffle(), 4, 7, []int{1, 2, 1, 0, 0, 1, 2}, api.OK}, {shuffle(), -2, 4, []int{1, 0, 1, 0}, api.OK}, {split(), -1, 2, []int{5, 5}, api.OK}, {split(), -7, 3, []int{5, 4, 5}, api.OK},
		{half(3, 1), api.MaxNumber - 1, 1, []int{1}, api.OK}, {half(3, 1), api.MaxNumber - 1, 2, nil, api.ErrFull}, {half(3, 1), 1 - api.MaxNumber, 1, []int{1}, api.OK}, {half(3, 1), 1 - api.MaxNumber, 2, nil, api.ErrFull},
		{ruleOf(2, 19, 19, 0, 1), 1 << 36, 2, []int{0, 0}, api.OK}, {ruleOf(2, 19, 19, 0, 1), 1 << 36, 3, nil, api.ErrFull}, {ruleOf(2, 19, 19, 0, 1), 1, 500, nil, api.ErrFull},
	}
	for _, c := range cases {
		if got, e := wheel.Course(c.rule, c.x, c.k); !slices.Equal(got, c.want) || e != c.e {
			t.Errorf("Course(%v, %d, %d) = %v, %d, want %v, %d", c.rule, c.x, c.k, got, e, c.want, c.e)
		}
	}
}

// noSteps returns numbers that are no numbers of steps.
func noSteps() []int {
	return []int{math.MinInt, -500, -2, -1, api.MaxSteps + 1, 502, 1 << 32, math.MaxInt - 1, math.MaxInt}
}

func TestSendingWithInvalidArguments(t *testing.T) {
	refuse := func(rule api.Rule, x, steps int) {
		t.Helper()
		if got, e := wheel.Orbit(rule, x, steps); len(got) != 0 || e != api.ErrArg {
			t.Errorf("Orbit(%s, %d, %d) = %s, %d", brief(rule), x, steps, brief(got), e)
		}
		if got, e := wheel.Course(rule, x, steps); len(got) != 0 || e != api.ErrArg {
			t.Errorf("Course(%s, %d, %d) = %s, %d", brief(rule), x, steps, brief(got), e)
		}
	}
	refuseNumber := func(rule api.Rule, x int) {
		t.Helper()
		if got, e := wheel.Send(rule, x); got != 0 || e != api.ErrArg {
			t.Errorf("Send(%s, %d) = %d, %d", brief(rule), x, got, e)
		}
		for _, steps := range append(noSteps(), 0, 1, 500) {
			refuse(rule, x, steps)
		}
	}
	for _, rule := range noRules() {
		for _, x := range append(largeNumbers(), -1, 0, 1, 5) {
			refuseNumber(rule, x)
		}
	}
	for _, rule := range knownRules() {
		for _, x := range largeNumbers() {
			refuseNumber(rule, x)
		}
		for _, steps := range noSteps() {
			for _, x := range []int{-1, 0, 1, api.MaxNumber, -api.MaxNumber} {
				refuse(rule, x, steps)
			}
		}
	}
}
