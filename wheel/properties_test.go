package wheel_test

import (
	"math"
	"reflect"
	"slices"
	"testing"

	"remould/api"
	"remould/wheel"
)

// P6.5: numbers have the same course of length k exactly if they have the same remainder modulo m^k, that of Start.
func TestNumbersWithCourses(t *testing.T) {
	for _, rule := range someRules() {
		d := 1
		for k := range 4 {
			starts := map[int]bool{}
			for x := -2 * d; x <= 2*d; x++ {
				course, e := wheel.Course(rule, x, k)
				start, eStart := wheel.Start(rule, course)
				if start != ((x%d)+d)%d || e != api.OK || eStart != api.OK {
					t.Fatalf("Start(%v, %v) = %d, %d, but %d has this course", rule, course, start, eStart, x)
				}
				starts[start] = true
			}
			if len(starts) != d {
				t.Errorf("%v has %d courses of length %d", rule, len(starts), k)
			}
			d *= rule.Modulus
		}
	}
}

// P6.5: m^k different courses have different Starts less than m^k, and have them as their courses.
func TestStartHasTheCourse(t *testing.T) {
	for _, rule := range someRules() {
		for _, course := range someCourses(rule.Modulus) {
			start, e := wheel.Start(rule, course)
			_, _, d, eForm := wheel.Form(rule, course)
			if start < 0 || start >= d || e != api.OK || eForm != api.OK {
				t.Errorf("Start(%v, %v) = %d, %d, D is %d", rule, course, start, e, d)
			}
			// So many numbers on the way are not large, whatever the rule is.
			if got, e := wheel.Course(rule, start, min(len(course), 6)); !slices.Equal(got, course[:len(got)]) || e != api.OK {
				t.Errorf("Course of Start(%v, %v) = %d is %v, %d", rule, course, start, got, e)
			}
		}
	}
}

// P6.5: whole numbers of Fixed are sent to themselves in the steps of the course.
func TestFixedIsSentToItself(t *testing.T) {
	checked := 0
	for _, rule := range someRules() {
		for _, course := range someCourses(rule.Modulus) {
			x, e := wheel.Fixed(rule, course)
			if e != api.OK || x.Den != 1 || isLarge(x.Num) {
				continue
			}
			has, eCourse := wheel.Course(rule, x.Num, len(course))
			if eCourse == api.OK && slices.Equal(has, course) {
				checked++
				if list := after(rule, x.Num, len(course)); list[len(list)-1] != x.Num {
					t.Errorf("Fixed(%v, %v) = %d, which goes to %v", rule, course, x.Num, list)
				}
			}
		}
	}
	if checked < 100 {
		t.Errorf("only %d numbers have their courses", checked)
	}
}

// P6.5 and P3: each number of a cycle is sent to the next one, and is the Fixed of its course.
func TestNumbersOfCycles(t *testing.T) {
	for _, rule := range someRules() {
		cycles, e := wheel.Cycles(rule, -250, 250, api.MaxSteps)
		if e != api.OK {
			t.Fatalf("Cycles(%v): %d", rule, e)
		}
		for _, cycle := range cycles {
			if slices.Min(cycle) != cycle[0] {
				t.Errorf("%v has the cycle %v", rule, cycle)
			}
			for i, x := range cycle {
				if sent, e := wheel.Send(rule, x); sent != cycle[(i+1)%len(cycle)] || e != api.OK {
					t.Errorf("%v has the cycle %v, but %d is sent to %d, %d", rule, cycle, x, sent, e)
				}
				course, _ := wheel.Course(rule, x, len(cycle))
				if len(course) > api.MaxCourse {
					continue
				}
				if fixed, e := wheel.Fixed(rule, course); fixed != (api.Frac{Num: x, Den: 1}) || e != api.OK {
					t.Errorf("%v has the cycle %v, but Fixed(%v) = %v, %d", rule, cycle, course, fixed, e)
				}
			}
			if len(cycle) <= api.MaxWhole {
				if whole, e := wheel.Whole(rule, len(cycle)); !slices.Contains(whole, cycle[0]) || e != api.OK {
					t.Errorf("%v has the cycle %v, but Whole = %v, %d", rule, cycle, whole, e)
				}
			}
		}
	}
}

// P6.3: Cycle comes to Whole from where it begins.
func TestWholeBeginsCycles(t *testing.T) {
	for _, rule := range someRules() {
		for k := 1; k <= api.MaxWhole; k++ {
			whole, e := wheel.Whole(rule, k)
			if e != api.OK {
				t.Errorf("Whole(%v, %d): %d", rule, k, e)
			}
			for _, x := range whole {
				if cycle, before, e := wheel.Cycle(rule, x, k); len(cycle) != k || cycle[0] != x || before != 0 || e != api.OK {
					t.Errorf("Whole(%v, %d) = %v, but Cycle of %d = %v, %d, %d", rule, k, whole, x, cycle, before, e)
				}
			}
		}
	}
}

// P6.5: at most m numbers are sent to a number.
func TestBackHasFewNumbers(t *testing.T) {
	most := map[int]int{}
	for _, rule := range someRules() {
		for _, x := range someNumbers() {
			if back, e := wheel.Back(rule, x); e == api.OK {
				most[rule.Modulus] = max(most[rule.Modulus], len(back))
				for _, number := range back {
					if sent, e := wheel.Send(rule, number); sent != x || e != api.OK {
						t.Errorf("Back(%v, %d) = %v, but %d is sent to %d, %d", rule, x, back, number, sent, e)
					}
				}
			}
			sent, e := wheel.Send(rule, x)
			if e != api.OK {
				continue
			}
			back, e := wheel.Back(rule, sent)
			if e == api.OK && !slices.Contains(back, x) || e != api.OK && e != api.ErrFull {
				t.Errorf("%d is sent to %d, but Back(%v) = %v, %d", x, sent, rule, back, e)
			}
			if counts, e := wheel.Sets(rule, sent, 1); e == api.OK && !slices.Equal(counts, []int{1, len(back)}) {
				t.Errorf("Sets(%v, %d, 1) = %v, Back has %v", rule, sent, counts, back)
			}
		}
	}
	for modulus := 2; modulus <= api.MaxModulus; modulus++ {
		if most[modulus] != modulus {
			t.Errorf("at most %d numbers are sent to one for the modulus %d", most[modulus], modulus)
		}
	}
}

// calls returns all results of one call of each function.
func calls(rule api.Rule, x, number int, course []int) []any {
	var all []any
	add := func(results ...any) { all = append(all, results...) }
	sent, e := wheel.Send(rule, x)
	add(sent, e)
	orbit, e := wheel.Orbit(rule, x, number)
	add(orbit, e)
	remainders, e := wheel.Course(rule, x, number)
	add(remainders, e)
	start, e := wheel.Start(rule, course)
	add(start, e)
	a, b, d, e := wheel.Form(rule, course)
	add(a, b, d, e)
	fixed, e := wheel.Fixed(rule, course)
	add(fixed, e)
	cycle, before, e := wheel.Cycle(rule, x, number)
	add(cycle, before, e)
	cycles, e := wheel.Cycles(rule, x-20, x, number)
	add(cycles, e)
	falls, e := wheel.Falls(rule, number)
	add(falls, e)
	back, e := wheel.Back(rule, x)
	add(back, e)
	sets, e := wheel.Sets(rule, x, number)
	add(sets, e)
	whole, e := wheel.Whole(rule, number)
	add(whole, e)
	return all
}

// withBehind returns a copy of a list, with memory behind it that holds other numbers, and this memory with the copy.
func withBehind(list []int) (given, memory []int) {
	memory = append(slices.Clone(list), -5, -6, -7)
	return memory[:len(list)], memory
}

// P1, P2 and rule 5: whatever the arguments are, a call returns, the same call twice returns the same, and it changes nothing that it was given.
func TestArgumentsStayAsTheyAre(t *testing.T) {
	numbers := []int{math.MinInt, -1 << 41, -api.MaxNumber, -7, -1, 0, 1, 3, 5, 6, 12, 500, api.MaxNumber, 1 << 41, math.MaxInt}
	for i, rule := range slices.Concat(someRules(), noRules()) {
		times, timesMemory := withBehind(rule.Times)
		plus, plusMemory := withBehind(rule.Plus)
		course, courseMemory := withBehind([]int{1, 0, 1, 2, 3}[:i%6])
		given := api.Rule{Modulus: rule.Modulus, Times: times, Plus: plus}
		for at, x := range numbers {
			number := numbers[(at+i)%len(numbers)]
			first, second := calls(given, x, number, course), calls(given, x, number, course)
			if !reflect.DeepEqual(first, second) {
				t.Errorf("%s, %d, %d: one call returns %s, the next one %s", brief(rule), x, number, brief(first), brief(second))
			}
		}
		if !slices.Equal(timesMemory, append(slices.Clone(rule.Times), -5, -6, -7)) || !slices.Equal(plusMemory, append(slices.Clone(rule.Plus), -5, -6, -7)) {
			t.Errorf("%s has become %s, %s", brief(rule), brief(timesMemory), brief(plusMemory))
		}
		if !slices.Equal(courseMemory, append([]int{1, 0, 1, 2, 3}[:i%6:i%6], -5, -6, -7)) {
			t.Errorf("the course has become %v", courseMemory)
		}
	}
}

// spoil changes the memory of a list, and what may lie behind it.
func spoil(list []int) {
	_ = append(list, -9, -9, -9, -9)
	for i := range list {
		list[i] = -9
	}
}

// Rule 5: results share no memory with arguments or with each other.
func TestResultsAreNewMemory(t *testing.T) {
	for _, rule := range someRules() {
		given := api.Rule{Modulus: rule.Modulus, Times: slices.Clone(rule.Times), Plus: slices.Clone(rule.Plus)}
		course := []int{1, 0, 1}
		for _, number := range []int{1, 3, 5} {
			want, results := calls(given, 7, number, course), calls(given, 7, number, course)
			for i, result := range results {
				switch list := result.(type) {
				case []int:
					spoil(list)
				case [][]int:
					for k := range list {
						spoil(list[k])
						if !reflect.DeepEqual(list[k+1:], want[i].([][]int)[k+1:]) {
							t.Fatalf("Cycles(%v): the cycles %d share memory", rule, k)
						}
					}
				}
				if !reflect.DeepEqual(results[i+1:], want[i+1:]) {
					t.Fatalf("%v: the results %d share memory", rule, i)
				}
			}
			if got := calls(given, 7, number, course); !reflect.DeepEqual(got, want) || !reflect.DeepEqual(given, rule) || !slices.Equal(course, []int{1, 0, 1}) {
				t.Errorf("after a change of the results of %v the rule is %v, and the calls return %v, not %v", rule, given, got, want)
			}
		}
	}
}
