package gauge_test

import (
	"math"
	"sort"
	"strings"
	"testing"

	"remould/api"
	"remould/gauge"
)

// The ladder of the helpers consists of the values of plain texts.
func TestLadderOfPlainTexts(t *testing.T) {
	const most = 15
	ladder := ladderOf(most)
	texts := plainTexts(most)
	if len(texts) != len(ladder) {
		t.Fatalf("%d plain texts, %d values", len(texts), len(ladder))
	}
	for k, text := range texts {
		if !isPlain(text) || valueOf(text) != ladder[k] || k > 0 && order(ladder[k-1], ladder[k]) >= 0 {
			t.Fatalf("%q has the value %v, the ladder has %v", text, valueOf(text), ladder[k])
		}
		if got, e := gauge.Rung(k); got != ladder[k] || e != api.OK {
			t.Errorf("Rung(%d) = %v, %d, want %v", k, got, e, ladder[k])
		}
	}
}

// P4.3: Rung.
func TestRungAgainstLadder(t *testing.T) {
	ladder := ladderOf(24)
	if len(ladder) <= api.MaxRung {
		t.Fatalf("the ladder has only %d values", len(ladder))
	}
	for k, want := range ladder[:api.MaxRung+1] {
		if got, e := gauge.Rung(k); got != want || e != api.OK {
			t.Fatalf("Rung(%d) = %v, %d, want %v", k, got, e, want)
		}
	}
	for _, k := range []int{-1, -2, -100, api.MaxRung + 1, api.MaxRung + 2, 1 << 32, math.MaxInt, math.MinInt} {
		if got, e := gauge.Rung(k); got != (api.Gold{}) || e != api.ErrArg {
			t.Errorf("Rung(%d) = %v, %d", k, got, e)
		}
	}
}

func TestRungOfExamples(t *testing.T) {
	for k, want := range []api.Gold{{}, {A: 1}, {B: 1}, {A: 1, B: 1}, {A: 2, B: 1}, {A: 1, B: 2}, {A: 2, B: 2}, {A: 1, B: 3}} {
		if got, e := gauge.Rung(k); got != want || e != api.OK {
			t.Errorf("Rung(%d) = %v, %d, want %v", k, got, e, want)
		}
	}
}

// P4.3: Below.
func TestBelowAgainstLadder(t *testing.T) {
	// The next power is greater than MaxGold.
	ladder := ladderOf(29)
	if order(powerOfW(29), whole(api.MaxGold)) <= 0 {
		t.Fatal("the ladder is too short")
	}
	check := func(x api.Gold) {
		t.Helper()
		want := sort.Search(len(ladder), func(k int) bool { return order(ladder[k], x) >= 0 })
		if got, e := gauge.Below(x); got != want || e != api.OK {
			t.Errorf("Below(%v) = %d, %d, want %d", x, got, e, want)
		}
	}
	small := api.Gold{A: -10946, B: 6765}
	for k := 0; k < len(ladder) && order(ladder[k], whole(api.MaxGold)) < 0; k += 1 + k/20 {
		check(ladder[k])
		check(sum(ladder[k], small))
		check(sum(ladder[k], api.Gold{A: -small.A, B: -small.B}))
	}
	for _, x := range someNumbers() {
		if order(x, whole(api.MaxGold)) <= 0 {
			check(x)
			continue
		}
		if got, e := gauge.Below(x); got != 0 || e != api.ErrArg {
			t.Errorf("Below(%v) = %d, %d, want ErrArg", x, got, e)
		}
	}
}

func TestBelowOfExamples(t *testing.T) {
	cases := []struct {
		x    api.Gold
		want int
		e    api.Errno
	}{
		{api.Gold{}, 0, api.OK}, {whole(-1), 0, api.OK}, {api.Gold{A: -api.MaxGold, B: -api.MaxGold}, 0, api.OK}, {api.Gold{A: 1, B: -1}, 0, api.OK}, {api.Gold{A: 2, B: -1}, 1, api.OK},
		{whole(1), 1, api.OK}, {api.Gold{B: 1}, 2, api.OK}, {whole(2), 3, api.OK}, {api.Gold{A: 1, B: 1}, 3, api.OK}, {whole(3), 4, api.OK}, {api.Gold{A: 2, B: 1}, 4, api.OK}, {whole(4), 5, api.OK},
		{whole(api.MaxGold), 1170821, api.OK}, {whole(5), 6, api.OK},
		{api.Gold{A: api.MaxGold, B: 1}, 0, api.ErrArg}, {api.Gold{B: 618034}, 0, api.ErrArg}, {api.Gold{B: 618033}, 1170819, api.OK}, {api.Gold{A: api.MaxGold, B: api.MaxGold}, 0, api.ErrArg}, {api.Gold{A: api.MaxGold, B: -1}, 1170819, api.OK},
	}
	for _, c := range cases {
		if got, e := gauge.Below(c.x); got != c.want || e != c.e {
			t.Errorf("Below(%v) = %d, %d, want %d, %d", c.x, got, e, c.want, c.e)
		}
	}
}

// P4.3: Gaps.
func TestGapsAgainstLadder(t *testing.T) {
	ladder := ladderOf(16)
	var letters strings.Builder
	for n := 0; n <= api.MaxGaps; n++ {
		if got, e := gauge.Gaps(n); got != letters.String() || e != api.OK {
			t.Fatalf("Gaps(%d) = %q, %d, want %q", n, got, e, letters.String())
		}
		switch ladder[n+1] {
		case sum(ladder[n], whole(1)):
			letters.WriteByte('L')
		case sum(ladder[n], api.Gold{A: -1, B: 1}):
			letters.WriteByte('S')
		default:
			t.Fatalf("the ladder goes from %v to %v", ladder[n], ladder[n+1])
		}
	}
	for n, want := range []string{"", "L", "LS", "LSL", "LSLL", "LSLLS", "LSLLSL", "LSLLSLS"} {
		if got, e := gauge.Gaps(n); got != want || e != api.OK {
			t.Errorf("Gaps(%d) = %q, %d, want %q", n, got, e, want)
		}
	}
	for _, n := range []int{-1, -1000, api.MaxGaps + 1, api.MaxGaps + 2, 1 << 32, math.MaxInt, math.MinInt} {
		if got, e := gauge.Gaps(n); got != "" || e != api.ErrArg {
			t.Errorf("Gaps(%d) has %d letters, %d", n, len(got), e)
		}
	}
}
