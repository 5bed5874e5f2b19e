package wheel_test

import (
	"math/big"
	"slices"
	"testing"

	"remould/api"
	"remould/wheel"
)

// fracOf returns a fraction in lowest terms.
func fracOf(num, den *big.Int) api.Frac {
	x := new(big.Rat).SetFrac(num, den)
	return api.Frac{Num: int(x.Num().Int64()), Den: int(x.Denom().Int64())}
}

// P6.2 and P4: the numbers from 0 on, until each course has come.
func TestStartAgainstNumbersFromZero(t *testing.T) {
	for _, rule := range someRules() {
		for k := range 6 {
			if rule.Modulus > 4 && k == 5 {
				continue
			}
			came := map[[5]int]bool{}
			all := len(allCourses(rule.Modulus, k))
			for x := 0; len(came) < all; x++ {
				course := courseOf(rule, big.NewInt(int64(x)), k)
				var key [5]int
				copy(key[:], course)
				if came[key] {
					continue
				}
				came[key] = true
				if got, e := wheel.Start(rule, course); got != x || e != api.OK {
					t.Errorf("Start(%v, %v) = %d, %d, want %d", rule, course, got, e, x)
				}
			}
		}
	}
}

// P6.2: A x + B is divisible by D exactly for the numbers with the course, so that the first of them is -B / A modulo D.
func TestStartAgainstForms(t *testing.T) {
	for _, rule := range someRules() {
		for _, course := range someCourses(rule.Modulus) {
			a, b, d := stepsBack(rule, course)
			want := new(big.Int)
			if len(course) > 0 {
				want.ModInverse(a, d)
				want.Mul(want, b.Neg(b)).Mod(want, d)
			}
			got, e := wheel.Start(rule, course)
			if int64(got) != want.Int64() || e != api.OK {
				t.Errorf("Start(%v, %v) = %d, %d, want %d", rule, course, got, e, want)
			}
			if has := courseOf(rule, big.NewInt(int64(got)), len(course)); !slices.Equal(has, course) {
				t.Errorf("Start(%v, %v) = %d, which has %v", rule, course, got, has)
			}
		}
	}
}

func TestStartOfExamples(t *testing.T) {
	cases := []struct {
		rule   api.Rule
		course []int
		want   int
	}{
		{half(3, 1), nil, 0}, {half(3, 1), []int{}, 0}, {half(3, 1), []int{0}, 0}, {half(3, 1), []int{1}, 1}, {half(3, 1), []int{1, 1, 0}, 3}, {half(3, 1), []int{1, 0}, 1}, {half(3, 1), []int{0, 1}, 2}, {half(3, 1), slices.Repeat([]int{1}, 12), 4095}, {half(3, 1), make([]int, 12), 0}, {half(3, 1), []int{0, 0, 0, 0, 0, 0, 0, 0, 0, 0, 0, 1}, 2048},
		{shuffle(), []int{1, 2, 1, 0, 0}, 4}, {shuffle(), []int{1, 0, 1, 0}, 79}, {split(), []int{2, 1}, 8}, {split(), slices.Repeat([]int{5}, 12), 2176782335}, // 6^12 - 1
	}
	for _, c := range cases {
		if got, e := wheel.Start(c.rule, c.course); got != c.want || e != api.OK {
			t.Errorf("Start(%v, %v) = %d, %d, want %d", c.rule, c.course, got, e, c.want)
		}
	}
}

// P6.2: Form.
func TestFormAgainstSums(t *testing.T) {
	greatest := 0
	for _, rule := range someRules() {
		for _, course := range someCourses(rule.Modulus) {
			wantA, wantB, wantD := stepsBack(rule, course)
			a, b, d, e := wheel.Form(rule, course)
			if int64(a) != wantA.Int64() || int64(b) != wantB.Int64() || int64(d) != wantD.Int64() || e != api.OK {
				t.Errorf("Form(%v, %v) = %d, %d, %d, %d, want %d, %d, %d", rule, course, a, b, d, e, wantA, wantB, wantD)
			}
			greatest = max(greatest, b, -b)
		}
	}
	if greatest < 1<<52 {
		t.Errorf("no B is greater than %d", greatest)
	}
}

// P6.2: numbers with a course are sent as the form says.
func TestFormSendsNumbers(t *testing.T) {
	for _, rule := range someRules() {
		for _, course := range someCourses(rule.Modulus) {
			start, _ := wheel.Start(rule, course)
			a, b, d, e := wheel.Form(rule, course)
			for _, n := range []int{0, 1, -1, 5, -1000} {
				x := big.NewInt(int64(start + n*d))
				left := new(big.Int).Mul(big.NewInt(int64(a)), x)
				left.Add(left, big.NewInt(int64(b)))
				sent := sentBig(rule, x, len(course))
				if right := new(big.Int).Mul(sent, big.NewInt(int64(d))); left.Cmp(right) != 0 || e != api.OK {
					t.Errorf("Form(%v, %v) = %d, %d, %d, %d, but %d is sent to %d", rule, course, a, b, d, e, x, sent)
				}
			}
		}
	}
}

func TestFormOfExamples(t *testing.T) {
	cases := []struct {
		rule    api.Rule
		course  []int
		a, b, d int
	}{
		{half(3, 1), nil, 1, 0, 1}, {split(), []int{}, 1, 0, 1}, {half(3, 1), []int{0}, 1, 0, 2}, {half(3, 1), []int{1}, 3, 1, 2}, {half(3, 1), []int{1, 0}, 3, 1, 4}, {half(3, 1), []int{0, 1}, 3, 2, 4}, {half(3, 1), []int{1, 1, 0}, 9, 5, 8},
		{shuffle(), []int{1, 2, 1, 0, 0}, 256, -52, 243}, {ruleOf(2, 19, 19, 50, 49), []int{0, 1}, 361, 1048, 4}, {ruleOf(3, 20, 20, 20, 48, 49, 50), slices.Repeat([]int{2}, 12), 4096000000000000, 12047058821966350, 531441},
	}
	for _, c := range cases {
		if a, b, d, e := wheel.Form(c.rule, c.course); a != c.a || b != c.b || d != c.d || e != api.OK {
			t.Errorf("Form(%v, %v) = %d, %d, %d, %d, want %d, %d, %d", c.rule, c.course, a, b, d, e, c.a, c.b, c.d)
		}
	}
}

// P6.2 and rule 4: Fixed is in lowest terms.
func TestFixedAgainstFractions(t *testing.T) {
	whole := 0
	for _, rule := range someRules() {
		for _, course := range someCourses(rule.Modulus) {
			if len(course) == 0 {
				continue
			}
			a, b, d := stepsBack(rule, course)
			want := fracOf(b, d.Sub(d, a))
			if want.Den == 1 {
				whole++
			}
			if got, e := wheel.Fixed(rule, course); got != want || e != api.OK {
				t.Errorf("Fixed(%v, %v) = %v, %d, want %v", rule, course, got, e, want)
			}
		}
	}
	if whole < 100 {
		t.Errorf("only %d fractions are whole", whole)
	}
}

func TestFixedOfExamples(t *testing.T) {
	cases := []struct {
		rule   api.Rule
		course []int
		want   api.Frac
	}{
		{half(3, 1), []int{1, 0}, api.Frac{Num: 1, Den: 1}}, {half(3, 1), []int{0, 1}, api.Frac{Num: 2, Den: 1}}, {half(3, 1), []int{0}, api.Frac{Num: 0, Den: 1}}, {half(3, 1), []int{1}, api.Frac{Num: -1, Den: 1}}, {half(3, 1), []int{0, 0, 0}, api.Frac{Num: 0, Den: 1}},
		{half(3, 1), []int{1, 0, 0}, api.Frac{Num: 1, Den: 5}}, {half(3, -1), []int{1, 0, 0}, api.Frac{Num: -1, Den: 5}}, {half(3, 1), []int{1, 1, 0}, api.Frac{Num: -5, Den: 1}}, {half(3, 1), []int{1, 1, 1, 0}, api.Frac{Num: -19, Den: 11}},
		{half(5, 1), []int{1, 0, 0}, api.Frac{Num: 1, Den: 3}}, {ruleOf(2, 1, 1, 50, -49), []int{0, 1}, api.Frac{Num: -16, Den: 1}}, {ruleOf(2, 1, 1, 50, -49), []int{1, 0}, api.Frac{Num: 17, Den: 1}},
	}
	for _, c := range cases {
		if got, e := wheel.Fixed(c.rule, c.course); got != c.want || e != api.OK {
			t.Errorf("Fixed(%v, %v) = %v, %d, want %v", c.rule, c.course, got, e, c.want)
		}
	}
	for _, rule := range someRules() {
		for _, course := range [][]int{nil, {}} {
			if got, e := wheel.Fixed(rule, course); got != (api.Frac{}) || e != api.ErrNone {
				t.Errorf("Fixed(%v, %v) = %v, %d", rule, course, got, e)
			}
		}
	}
}

func TestCoursesWithInvalidArguments(t *testing.T) {
	refuse := func(rule api.Rule, course []int) {
		t.Helper()
		if got, e := wheel.Start(rule, course); got != 0 || e != api.ErrArg {
			t.Errorf("Start(%s, %s) = %d, %d", brief(rule), brief(course), got, e)
		}
		if a, b, d, e := wheel.Form(rule, course); a != 0 || b != 0 || d != 0 || e != api.ErrArg {
			t.Errorf("Form(%s, %s) = %d, %d, %d, %d", brief(rule), brief(course), a, b, d, e)
		}
		if got, e := wheel.Fixed(rule, course); got != (api.Frac{}) || e != api.ErrArg {
			t.Errorf("Fixed(%s, %s) = %v, %d", brief(rule), brief(course), got, e)
		}
	}
	for _, rule := range noRules() {
		for _, course := range [][]int{nil, {}, {0}, {1, 0}, {-1}, make([]int, api.MaxCourse+1)} {
			refuse(rule, course)
		}
	}
	for _, rule := range knownRules() {
		for _, course := range noCourses(rule.Modulus) {
			refuse(rule, course)
		}
	}
}
