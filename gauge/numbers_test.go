package gauge_test

import (
	"math"
	"testing"

	"remould/api"
	"remould/gauge"
)

// P4.1: Compare.
func TestCompareAgainstNearRatio(t *testing.T) {
	numbers := someNumbers()
	for i, x := range numbers {
		for _, y := range numbers[i%7:] {
			want := order(x, y)
			if got, e := gauge.Compare(x, y); got != want || e != api.OK {
				t.Fatalf("Compare(%v, %v) = %d, %d, want %d", x, y, got, e, want)
			}
		}
	}
}

func TestCompareOfExamples(t *testing.T) {
	cases := []struct {
		x, y api.Gold
		want int
	}{
		{api.Gold{}, api.Gold{}, 0}, {whole(1), whole(1), 0}, {api.Gold{A: -3, B: 5}, api.Gold{A: -3, B: 5}, 0},
		{whole(1), whole(2), -1}, {whole(2), whole(1), 1}, {whole(-1), whole(1), -1},
		{api.Gold{B: 1}, whole(1), 1}, {api.Gold{B: 1}, whole(2), -1}, {api.Gold{B: -1}, whole(-2), 1}, {api.Gold{B: -1}, whole(-1), -1},
		{api.Gold{B: 5}, whole(8), 1}, {api.Gold{B: 8}, whole(13), -1}, // 8.09, 12.94
		{api.Gold{B: 317811}, whole(514229), -1}, {api.Gold{B: 514229}, whole(832040), 1}, // differences of about a millionth
		{api.Gold{A: -832040, B: 514229}, api.Gold{}, 1}, {api.Gold{A: 832040, B: -514229}, api.Gold{}, -1},
		{api.Gold{A: 1000000, B: -1000000}, api.Gold{A: -1000000, B: 1000000}, -1},
	}
	for _, c := range cases {
		if got, e := gauge.Compare(c.x, c.y); got != c.want || e != api.OK {
			t.Errorf("Compare(%v, %v) = %d, %d, want %d", c.x, c.y, got, e, c.want)
		}
	}
}

// P4.1: Floor.
func TestFloorAgainstNearRatio(t *testing.T) {
	for _, x := range someNumbers() {
		got, e := gauge.Floor(x)
		if e != api.OK || order(whole(got), x) > 0 || order(whole(got+1), x) <= 0 {
			t.Errorf("Floor(%v) = %d, %d", x, got, e)
		}
	}
}

func TestFloorOfExamples(t *testing.T) {
	cases := []struct {
		x    api.Gold
		want int
	}{
		{api.Gold{}, 0}, {whole(7), 7}, {whole(-7), -7}, {api.Gold{B: 1}, 1}, {api.Gold{B: -1}, -2}, {api.Gold{A: 1, B: -1}, -1}, {api.Gold{A: 2, B: -1}, 0},
		{whole(api.MaxGold), 1000000}, {whole(-api.MaxGold), -1000000}, {api.Gold{B: api.MaxGold}, 1618033}, {api.Gold{B: -api.MaxGold}, -1618034},
		{api.Gold{A: api.MaxGold, B: api.MaxGold}, 2618033}, {api.Gold{A: -api.MaxGold, B: -api.MaxGold}, -2618034},
		{api.Gold{A: 832040, B: -514229}, -1}, {api.Gold{A: -832040, B: 514229}, 0}, {api.Gold{A: 514229, B: -317811}, 0}, {api.Gold{A: -514229, B: 317811}, -1},
	}
	for _, c := range cases {
		if got, e := gauge.Floor(c.x); got != c.want || e != api.OK {
			t.Errorf("Floor(%v) = %d, %d, want %d", c.x, got, e, c.want)
		}
	}
}

// P4.1: Mate and Norm.
func TestMateAndNorm(t *testing.T) {
	for _, x := range someNumbers() {
		mate := api.Gold{A: x.A + x.B, B: -x.B}
		if got, e := gauge.Norm(x); got != norm(x) || e != api.OK {
			t.Errorf("Norm(%v) = %d, %d, want %d", x, got, e, norm(x))
		}
		got, e := gauge.Mate(x)
		if isIn(mate) && (got != mate || e != api.OK) {
			t.Errorf("Mate(%v) = %v, %d, want %v", x, got, e, mate)
		}
		if !isIn(mate) && (got != api.Gold{} || e != api.ErrFull) {
			t.Errorf("Mate(%v) = %v, %d, want ErrFull", x, got, e)
		}
	}
}

func TestMateAndNormOfExamples(t *testing.T) {
	cases := []struct {
		x, mate api.Gold
		e       api.Errno
		norm    int
	}{
		{api.Gold{}, api.Gold{}, api.OK, 0}, {whole(3), whole(3), api.OK, 9}, {api.Gold{B: 1}, api.Gold{A: 1, B: -1}, api.OK, -1},
		{api.Gold{A: 2, B: 3}, api.Gold{A: 5, B: -3}, api.OK, 1}, {api.Gold{A: -4, B: 1}, api.Gold{A: -3, B: -1}, api.OK, 11},
		{api.Gold{A: 999999, B: 1}, api.Gold{A: 1000000, B: -1}, api.OK, 999998999999},
		{api.Gold{A: 1000000, B: 1}, api.Gold{}, api.ErrFull, 1000001000000 - 1},
		{api.Gold{A: -1000000, B: -1}, api.Gold{}, api.ErrFull, 1000001000000 - 1},
		{api.Gold{A: -999999, B: -1}, api.Gold{A: -1000000, B: 1}, api.OK, 999998999999},
		{api.Gold{A: 1000000, B: -1000000}, api.Gold{B: 1000000}, api.OK, -1000000000000},
		{api.Gold{A: 1000000, B: 1000000}, api.Gold{}, api.ErrFull, 1000000000000},
	}
	for _, c := range cases {
		if got, e := gauge.Mate(c.x); got != c.mate || e != c.e {
			t.Errorf("Mate(%v) = %v, %d, want %v, %d", c.x, got, e, c.mate, c.e)
		}
		if got, e := gauge.Norm(c.x); got != c.norm || e != api.OK {
			t.Errorf("Norm(%v) = %d, %d, want %d", c.x, got, e, c.norm)
		}
	}
}

// P4.1: Product.
func TestProductAgainstMatrices(t *testing.T) {
	outcomes := map[bool]int{}
	numbers := someNumbers()
	for i, x := range numbers {
		for _, y := range numbers[i%5:] {
			want := product(x, y)
			outcomes[isIn(want)]++
			got, e := gauge.Product(x, y)
			if isIn(want) && (got != want || e != api.OK) {
				t.Fatalf("Product(%v, %v) = %v, %d, want %v", x, y, got, e, want)
			}
			if !isIn(want) && (got != api.Gold{} || e != api.ErrFull) {
				t.Fatalf("Product(%v, %v) = %v, %d, want ErrFull", x, y, got, e)
			}
		}
	}
	if outcomes[true] < 1000 || outcomes[false] < 1000 {
		t.Errorf("the products are numbers or not: %v", outcomes)
	}
}

func TestProductOfExamples(t *testing.T) {
	cases := []struct {
		x, y, want api.Gold
		e          api.Errno
	}{
		{api.Gold{}, api.Gold{A: 5, B: 6}, api.Gold{}, api.OK}, {api.Gold{B: 1}, api.Gold{B: 1}, api.Gold{A: 1, B: 1}, api.OK},
		{api.Gold{A: 2, B: 3}, api.Gold{A: 5, B: -3}, whole(1), api.OK}, {whole(-2), api.Gold{A: 3, B: -4}, api.Gold{A: -6, B: 8}, api.OK},
		{whole(1000), whole(1000), whole(1000000), api.OK}, {whole(-1000), whole(1000), whole(-1000000), api.OK}, {whole(101), whole(9901), api.Gold{}, api.ErrFull},
		{whole(1000), api.Gold{B: 1000}, api.Gold{B: 1000000}, api.OK}, {whole(9901), api.Gold{B: -101}, api.Gold{}, api.ErrFull},
		{api.Gold{A: 1000000, B: 1000000}, api.Gold{A: 1000000, B: 1000000}, api.Gold{}, api.ErrFull},
	}
	for _, c := range cases {
		if got, e := gauge.Product(c.x, c.y); got != c.want || e != c.e {
			t.Errorf("Product(%v, %v) = %v, %d, want %v, %d", c.x, c.y, got, e, c.want, c.e)
		}
	}
}

// P4.1: Power.
func TestPower(t *testing.T) {
	for k := -api.MaxPower; k <= api.MaxPower; k++ {
		if got, e := gauge.Power(k); got != powerOfW(k) || e != api.OK {
			t.Errorf("Power(%d) = %v, %d, want %v", k, got, e, powerOfW(k))
		}
	}
	examples := map[int]api.Gold{0: {A: 1}, 1: {B: 1}, 2: {A: 1, B: 1}, 3: {A: 1, B: 2}, -1: {A: -1, B: 1}, -2: {A: 2, B: -1}, 25: {A: 46368, B: 75025}, -25: {A: -121393, B: 75025}}
	for k, want := range examples {
		if got, e := gauge.Power(k); got != want || e != api.OK {
			t.Errorf("Power(%d) = %v, %d, want %v", k, got, e, want)
		}
	}
	for _, k := range []int{api.MaxPower + 1, -api.MaxPower - 1, 26, -26, 100, -100, 1 << 32, math.MaxInt, math.MinInt} {
		if got, e := gauge.Power(k); got != (api.Gold{}) || e != api.ErrArg {
			t.Errorf("Power(%d) = %v, %d", k, got, e)
		}
	}
}

// refuseOne checks that every function of one number refuses x.
func refuseOne(t *testing.T, x api.Gold) {
	t.Helper()
	floor, eFloor := gauge.Floor(x)
	norm, eNorm := gauge.Norm(x)
	below, eBelow := gauge.Below(x)
	if floor != 0 || eFloor != api.ErrArg || norm != 0 || eNorm != api.ErrArg || below != 0 || eBelow != api.ErrArg {
		t.Errorf("%v: Floor %d, %d, Norm %d, %d, Below %d, %d", x, floor, eFloor, norm, eNorm, below, eBelow)
	}
	mate, eMate := gauge.Mate(x)
	text, eText := gauge.Text(x)
	if mate != (api.Gold{}) || eMate != api.ErrArg || text != "" || eText != api.ErrArg {
		t.Errorf("%v: Mate %v, %d, Text %q, %d", x, mate, eMate, text, eText)
	}
}

// refuseTwo checks that every function of two numbers refuses x and y.
func refuseTwo(t *testing.T, x, y api.Gold) {
	t.Helper()
	compared, eCompared := gauge.Compare(x, y)
	product, eProduct := gauge.Product(x, y)
	q, r, eDivided := gauge.Divide(x, y)
	if compared != 0 || eCompared != api.ErrArg || product != (api.Gold{}) || eProduct != api.ErrArg || q != (api.Gold{}) || r != (api.Gold{}) || eDivided != api.ErrArg {
		t.Errorf("%v, %v: Compare %d, %d, Product %v, %d, Divide %v, %v, %d", x, y, compared, eCompared, product, eProduct, q, r, eDivided)
	}
}

func TestWhatIsNoNumber(t *testing.T) {
	for _, x := range noNumbers() {
		refuseOne(t, x)
		for _, y := range []api.Gold{{}, {A: 1}, {A: -3, B: 2}, {A: api.MaxGold, B: api.MaxGold}, x} {
			refuseTwo(t, x, y)
			refuseTwo(t, y, x)
		}
	}
}
