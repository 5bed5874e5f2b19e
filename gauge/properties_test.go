package gauge_test

import (
	"strings"
	"testing"

	"remould/api"
	"remould/gauge"
)

// P4.5 and P3: Text and Value correspond to each other.
func TestTextAndValueCorrespond(t *testing.T) {
	for _, x := range someNumbers() {
		text, e := gauge.Text(x)
		if e != api.OK {
			continue
		}
		if got, e := gauge.Value(text); got != x || e != api.OK {
			t.Errorf("Value(%q) = %v, %d, want %v", text, got, e, x)
		}
		if got, e := gauge.Plain(text); got != text || e != api.OK {
			t.Errorf("Plain(%q) = %q, %d", text, got, e)
		}
	}
	for _, text := range someTexts() {
		x, e := gauge.Value(text)
		plain, ePlain := gauge.Plain(text)
		if e != ePlain {
			t.Errorf("%q: Value has error %d, Plain %d", text, e, ePlain)
		}
		if e != api.OK {
			continue
		}
		if got, e := gauge.Text(x); got != plain || e != api.OK {
			t.Errorf("Text(%v) = %q, %d, want %q", x, got, e, plain)
		}
		if got, e := gauge.Add(text, "0"); got != plain || e != api.OK {
			t.Errorf("Add(%q, 0) = %q, %d, want %q", text, got, e, plain)
		}
	}
}

// P4.5: norms multiply, and the mate of the mate is the number.
func TestNormsAndMates(t *testing.T) {
	numbers := someNumbers()
	for i, x := range numbers {
		normOfX, _ := gauge.Norm(x)
		if mate, e := gauge.Mate(x); e == api.OK {
			back, e := gauge.Mate(mate)
			if both, eProduct := gauge.Product(x, mate); eProduct == api.OK && both != whole(normOfX) {
				t.Errorf("%v times %v is %v, not %d", x, mate, both, normOfX)
			}
			if back != x || e != api.OK {
				t.Errorf("the mate of %v is %v, whose mate is %v, %d", x, mate, back, e)
			}
		}
		for _, y := range numbers[i%9:] {
			product, e := gauge.Product(x, y)
			if e != api.OK {
				continue
			}
			normOfY, _ := gauge.Norm(y)
			if got, e := gauge.Norm(product); got != normOfX*normOfY || e != api.OK {
				t.Fatalf("the norms of %v, %v and %v are %d, %d and %d", x, y, product, normOfX, normOfY, got)
			}
		}
	}
}

// P4.5: the number of digits tells the size.
func TestDigitsTellTheSize(t *testing.T) {
	for _, x := range someNumbers() {
		text, e := gauge.Text(x)
		if e != api.OK || order(x, whole(1)) < 0 {
			continue
		}
		before, _, _ := strings.Cut(text, ".")
		n := len(before)
		if order(x, powerOfW(n-1)) < 0 || order(x, powerOfW(n)) >= 0 {
			t.Errorf("%v has the text %q", x, text)
		}
	}
	for k := -api.MaxPower; k <= api.MaxPower; k++ {
		want := "1" + zeros(max(k, 0))
		if k < 0 {
			want = "0." + zeros(-k-1) + "1"
		}
		power, _ := gauge.Power(k)
		if got, e := gauge.Text(power); got != want || e != api.OK {
			t.Errorf("w^%d has the text %q, %d, want %q", k, got, e, want)
		}
	}
}

// P4.5: Gaps arises from L by a replacement, and has about n / w^2 letters S.
func TestGapsByReplacement(t *testing.T) {
	letters := "L"
	replace := strings.NewReplacer("L", "LS", "S", "L")
	for len(letters) < api.MaxGaps {
		letters = replace.Replace(letters)
	}
	for n := range api.MaxGaps + 1 {
		got, e := gauge.Gaps(n)
		if got != letters[:n] || e != api.OK {
			t.Fatalf("Gaps(%d) = %q, %d, want %q", n, got, e, letters[:n])
		}
		// The difference of the number of S from n / w^2 = 2 n - n w.
		difference := api.Gold{A: strings.Count(got, "S") - 2*n, B: n}
		if order(difference, whole(-1)) <= 0 || order(difference, whole(1)) >= 0 {
			t.Errorf("Gaps(%d) has %d letters S", n, strings.Count(got, "S"))
		}
	}
}

// P4.3: Rung and Below undo each other, and rungs have no digits after the point.
func TestRungsAndBelow(t *testing.T) {
	for k := 0; k <= api.MaxRung; k += 1 + k/100 {
		x, e := gauge.Rung(k)
		below, eBelow := gauge.Below(x)
		if e != api.OK || below != k || eBelow != api.OK {
			t.Errorf("Rung(%d) = %v, %d, and %d values are less, %d", k, x, e, below, eBelow)
		}
		if text, e := gauge.Text(x); strings.Contains(text, ".") || e != api.OK {
			t.Errorf("Rung(%d) has the text %q, %d", k, text, e)
		}
	}
}

// results has what one call of each function returns.
type results struct {
	compared, floored, norm, below             int
	mate, product, power, value, rung, q, rest api.Gold
	text, plain, sum, gaps                     string
	errors                                     [14]api.Errno
}

func calls(x, y api.Gold, text string) results {
	var r results
	e := &r.errors
	r.compared, e[0] = gauge.Compare(x, y)
	r.floored, e[1] = gauge.Floor(x)
	r.mate, e[2] = gauge.Mate(x)
	r.norm, e[3] = gauge.Norm(x)
	r.product, e[4] = gauge.Product(x, y)
	r.power, e[5] = gauge.Power(x.A)
	r.text, e[6] = gauge.Text(x)
	r.value, e[7] = gauge.Value(text)
	r.plain, e[8] = gauge.Plain(text)
	r.sum, e[9] = gauge.Add(text, r.plain)
	r.rung, e[10] = gauge.Rung(y.A)
	r.below, e[11] = gauge.Below(y)
	r.gaps, e[12] = gauge.Gaps(y.B)
	r.q, r.rest, e[13] = gauge.Divide(x, y)
	return r
}

// P1 and P2: whatever the arguments are, a call returns, and the same call twice returns the same.
func TestSameCallsHaveSameResults(t *testing.T) {
	numbers := append(noNumbers(), someNumbers()...)
	texts := append(noTexts(), someTexts()...)
	var before []results
	for round := range 2 {
		for i, x := range numbers {
			got := calls(x, numbers[(i*7+3)%len(numbers)], texts[i%len(texts)])
			if round == 0 {
				before = append(before, got)
			} else if got != before[i] {
				t.Errorf("%v: first %v, then %v", x, before[i], got)
			}
		}
	}
}
