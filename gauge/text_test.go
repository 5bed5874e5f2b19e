package gauge_test

import (
	"math/big"
	"strings"
	"testing"

	"remould/api"
	"remould/gauge"
)

// P4.2: Text. (There is exactly one plain text with each value.)
func TestTextIsPlain(t *testing.T) {
	for _, x := range someNumbers() {
		text, e := gauge.Text(x)
		if order(x, api.Gold{}) < 0 {
			if text != "" || e != api.ErrArg {
				t.Errorf("Text(%v) = %q, %d, want ErrArg", x, text, e)
			}
			continue
		}
		before, after, _ := strings.Cut(text, ".")
		if e != api.OK || !isPlain(text) || valueOf(text) != x || max(len(before), len(after)) > api.MaxDigits {
			t.Errorf("Text(%v) = %q, %d", x, text, e)
		}
	}
}

func TestTextOfExamples(t *testing.T) {
	cases := []struct {
		x    api.Gold
		want string
		e    api.Errno
	}{
		{api.Gold{}, "0", api.OK}, {whole(1), "1", api.OK}, {whole(2), "10.01", api.OK}, {whole(3), "100.01", api.OK}, {whole(4), "101.01", api.OK},
		{api.Gold{B: 1}, "10", api.OK}, {api.Gold{A: 1, B: 1}, "100", api.OK}, {api.Gold{A: -1, B: 1}, "0.1", api.OK}, {api.Gold{A: 2, B: -1}, "0.01", api.OK}, {api.Gold{A: 3, B: -1}, "1.01", api.OK},
		{whole(5), "1000.1001", api.OK}, {whole(10), "10100.0101", api.OK}, {api.Gold{A: -832040, B: 514229}, "0." + zeros(28) + "1", api.OK},
		{whole(-1), "", api.ErrArg}, {api.Gold{A: 1, B: -1}, "", api.ErrArg}, {api.Gold{A: 832040, B: -514229}, "", api.ErrArg}, {api.Gold{A: -api.MaxGold, B: -api.MaxGold}, "", api.ErrArg},
		{api.Gold{A: 514229, B: 832040}, "1" + zeros(30), api.OK},
	}
	for _, c := range cases {
		if got, e := gauge.Text(c.x); got != c.want || e != c.e {
			t.Errorf("Text(%v) = %q, %d, want %q, %d", c.x, got, e, c.want, c.e)
		}
	}
}

// P4.2: Value.
func TestValueAgainstPowers(t *testing.T) {
	full := 0
	for _, text := range someTexts() {
		want := valueOf(text)
		got, e := gauge.Value(text)
		if isIn(want) && (got != want || e != api.OK) {
			t.Errorf("Value(%q) = %v, %d, want %v", text, got, e, want)
		}
		if !isIn(want) {
			full++
			if got != (api.Gold{}) || e != api.ErrFull {
				t.Errorf("Value(%q) = %v, %d, want ErrFull", text, got, e)
			}
		}
	}
	if full < 50 {
		t.Errorf("only %d texts have values that are no numbers", full)
	}
}

// closely returns A + B w with many digits.
func closely(a, b *big.Float) *big.Float {
	const precision = 400
	w := new(big.Float).SetPrec(precision).SetInt64(5)
	w.Sqrt(w)
	w.Add(w, big.NewFloat(1))
	w.Quo(w, big.NewFloat(2))
	return w.Mul(w, b).Add(w, a)
}

// The value is the sum of the digits times the powers of w, as real numbers: other numbers of these sizes differ by more than 10^-7.
func TestValueAgainstRealNumbers(t *testing.T) {
	w := closely(big.NewFloat(0), big.NewFloat(1))
	for _, text := range someTexts() {
		x, e := gauge.Value(text)
		if e != api.OK {
			continue
		}
		before, after, _ := strings.Cut(text, ".")
		total := closely(big.NewFloat(0), big.NewFloat(0))
		for _, digit := range before + after {
			total.Mul(total, w).Add(total, big.NewFloat(float64(digit-'0')))
		}
		for range after {
			total.Quo(total, w)
		}
		total.Sub(total, closely(big.NewFloat(float64(x.A)), big.NewFloat(float64(x.B))))
		if total.Abs(total).Cmp(big.NewFloat(1e-30)) > 0 {
			t.Errorf("Value(%q) = %v, which is wrong by %v", text, x, total)
		}
	}
}

func TestValueOfExamples(t *testing.T) {
	cases := []struct {
		text string
		want api.Gold
		e    api.Errno
	}{
		{"0", api.Gold{}, api.OK}, {"000.000", api.Gold{}, api.OK}, {"1", whole(1), api.OK}, {"2", whole(2), api.OK}, {"3", whole(3), api.OK}, {"003", whole(3), api.OK}, {"3.0", whole(3), api.OK},
		{"10", api.Gold{B: 1}, api.OK}, {"20", api.Gold{B: 2}, api.OK}, {"10.01", whole(2), api.OK}, {"11", api.Gold{A: 1, B: 1}, api.OK}, {"0.1", api.Gold{A: -1, B: 1}, api.OK}, {"0.3", api.Gold{A: -3, B: 3}, api.OK},
		{"33.33", api.Gold{A: 6, B: 3}, api.OK}, {"0." + strings.Repeat("10", 19) + "11", whole(1), api.OK}, {zeros(39) + "1." + zeros(40), whole(1), api.OK},
		{"1" + zeros(30), api.Gold{A: 514229, B: 832040}, api.OK}, {"1" + zeros(31), api.Gold{}, api.ErrFull}, {"1" + zeros(39), api.Gold{}, api.ErrFull},
		{"0." + zeros(28) + "1", api.Gold{A: -832040, B: 514229}, api.OK}, {"0." + zeros(29) + "1", api.Gold{}, api.ErrFull}, {"0." + zeros(39) + "1", api.Gold{}, api.ErrFull},
		// The parts are no numbers, but their sum is: w^-39 + w^-38 = w^-37, and so on.
		{"0." + zeros(29) + "11", api.Gold{A: -832040, B: 514229}, api.OK}, {"0." + zeros(28) + "0" + strings.Repeat("10", 5) + "1", api.Gold{}, api.ErrFull},
		{"0." + zeros(29) + strings.Repeat("10", 4) + "11", api.Gold{A: -832040, B: 514229}, api.OK},
	}
	for _, c := range cases {
		if got, e := gauge.Value(c.text); got != c.want || e != c.e {
			t.Errorf("Value(%q) = %v, %d, want %v, %d", c.text, got, e, c.want, c.e)
		}
	}
}

// plainOf returns the plain text of a value that is not less than 0, which may be no number: it takes the greatest power of w that is left, again and again.
func plainOf(x api.Gold) string {
	var before, after string
	for k := 39; k >= -40; k-- {
		digit := "0"
		if power := powerOfW(k); order(x, power) >= 0 {
			digit = "1"
			x = api.Gold{A: x.A - power.A, B: x.B - power.B}
		}
		if k >= 0 {
			before += digit
		} else {
			after += digit
		}
	}
	text := strings.TrimLeft(before[:39], "0") + before[39:] + "." + strings.TrimRight(after, "0")
	return strings.TrimSuffix(text, ".")
}

// P4.2: Plain. (A text that is plain, and has the value, is the plain text with this value.)
func TestPlainIsPlain(t *testing.T) {
	for _, text := range someTexts() {
		value := valueOf(text)
		got, e := gauge.Plain(text)
		if isIn(value) && (e != api.OK || !isPlain(got) || valueOf(got) != value) {
			t.Errorf("Plain(%q) = %q, %d", text, got, e)
		}
		if !isIn(value) && (got != "" || e != api.ErrFull) {
			t.Errorf("Plain(%q) = %q, %d, want ErrFull", text, got, e)
		}
	}
}

func TestPlainOfExamples(t *testing.T) {
	cases := []struct {
		text, want string
		e          api.Errno
	}{
		{"0", "0", api.OK}, {"00", "0", api.OK}, {"0.0", "0", api.OK}, {"1.0", "1", api.OK}, {"01", "1", api.OK}, {"2", "10.01", api.OK}, {"3", "100.01", api.OK}, {"11", "100", api.OK}, {"0.11", "1", api.OK}, {"1.1", "10", api.OK},
		{"10.01", "10.01", api.OK}, {"0010.0100", "10.01", api.OK}, {"0.2", "1.001", api.OK}, {"0." + strings.Repeat("10", 19) + "11", "1", api.OK}, {strings.Repeat("0", 39) + "1." + zeros(40), "1", api.OK},
		{"1" + zeros(31), "", api.ErrFull}, {"0." + zeros(29) + "1", "", api.ErrFull}, {strings.Repeat("3", 40) + "." + strings.Repeat("3", 40), "", api.ErrFull},
	}
	for _, c := range cases {
		if got, e := gauge.Plain(c.text); got != c.want || e != c.e {
			t.Errorf("Plain(%q) = %q, %d, want %q, %d", c.text, got, e, c.want, c.e)
		}
	}
}

// P4.2: Add.
func TestAddAgainstSums(t *testing.T) {
	texts := someTexts()
	for i, s := range texts {
		for at := i % 17; at < len(texts); at += 17 {
			value := sum(valueOf(s), valueOf(texts[at]))
			got, e := gauge.Add(s, texts[at])
			if isIn(value) && (e != api.OK || !isPlain(got) || valueOf(got) != value) {
				t.Errorf("Add(%q, %q) = %q, %d", s, texts[at], got, e)
			}
			if !isIn(value) && (got != "" || e != api.ErrFull) {
				t.Errorf("Add(%q, %q) = %q, %d, want ErrFull", s, texts[at], got, e)
			}
		}
	}
}

func TestAddOfExamples(t *testing.T) {
	most := plainOf(whole(api.MaxGold))
	cases := []struct {
		s, t, want string
		e          api.Errno
	}{
		{"0", "0", "0", api.OK}, {"1", "0", "1", api.OK}, {"1", "1", "10.01", api.OK}, {"10.01", "1", "100.01", api.OK}, {"1", "10", "100", api.OK}, {"0.1", "0.01", "1", api.OK}, {"3", "3.00", "1010.0001", api.OK},
		{most, "0", most, api.OK}, {most, "1", "", api.ErrFull}, {"1", most, "", api.ErrFull},
		{most, plainOf(api.Gold{B: api.MaxGold}), plainOf(api.Gold{A: api.MaxGold, B: api.MaxGold}), api.OK},
		{plainOf(whole(api.MaxGold - 1)), "1", most, api.OK},
		// The values are no numbers, but their sum is one.
		{"0." + zeros(30) + "1", "0." + zeros(29) + "1", "0." + zeros(28) + "1", api.OK},
		{"0." + zeros(29) + "1", "0", "", api.ErrFull},
		{"1" + zeros(39), "1" + zeros(39), "", api.ErrFull},
	}
	for _, c := range cases {
		if got, e := gauge.Add(c.s, c.t); got != c.want || e != c.e {
			t.Errorf("Add(%q, %q) = %q, %d, want %q, %d", c.s, c.t, got, e, c.want, c.e)
		}
	}
}

// P4.2: a value is a number up to the limits of its coordinates, and no further.
func TestValuesAtTheLimits(t *testing.T) {
	const m = api.MaxGold
	for _, x := range []api.Gold{{A: m}, {B: m}, {A: m, B: m}, {A: -m, B: m}, {A: m, B: -618000}, {A: -m, B: 618100}} {
		for _, more := range []api.Gold{{A: 1}, {B: 1}, {A: -1}, {B: -1}, {}} {
			value := sum(x, more)
			got, e := gauge.Value(plainOf(value))
			if isIn(value) && (got != value || e != api.OK) {
				t.Errorf("Value(%q) = %v, %d, want %v", plainOf(value), got, e, value)
			}
			if !isIn(value) && (got != (api.Gold{}) || e != api.ErrFull) {
				t.Errorf("Value(%q) = %v, %d, want ErrFull for %v", plainOf(value), got, e, value)
			}
		}
	}
}

func TestWhatIsNoText(t *testing.T) {
	for _, text := range noTexts() {
		if got, e := gauge.Value(text); got != (api.Gold{}) || e != api.ErrSyntax {
			t.Errorf("Value(%.50q) = %v, %d", text, got, e)
		}
		if got, e := gauge.Plain(text); got != "" || e != api.ErrSyntax {
			t.Errorf("Plain(%.50q) = %q, %d", text, got, e)
		}
		// ErrSyntax comes before ErrFull.
		for _, other := range []string{"0", "10.01", "1" + zeros(39), text} {
			if got, e := gauge.Add(text, other); got != "" || e != api.ErrSyntax {
				t.Errorf("Add(%.50q, %q) = %q, %d", text, other, got, e)
			}
			if got, e := gauge.Add(other, text); got != "" || e != api.ErrSyntax {
				t.Errorf("Add(%q, %.50q) = %q, %d", other, text, got, e)
			}
		}
	}
}
