package tread_test

import (
	"slices"
	"testing"

	"remould/api"
	"remould/tread"
)

// P2.6: there is a loop exactly if the set is not unavoidable, and a shortest loop is short.
func TestLoopsAndUnavoidableSets(t *testing.T) {
	for _, s := range someSets() {
		_, longest := tread.Longest(s.q, s.set)
		loop, e := tread.Loop(s.q, s.set)
		growth, _ := tread.Growth(s.q, s.set)
		if (longest == api.OK) != (e == api.ErrNone) || (longest == api.OK) != (growth == -1) {
			t.Errorf("%d, %q: Longest has error %d, Loop %d, Growth is %d", s.q, s.set, longest, e, growth)
		}
		if e != api.OK {
			continue
		}
		if len(loop) > s.q*s.q*s.q*s.q {
			t.Errorf("Loop(%d, %q) = %q is too long", s.q, s.set, loop)
		}
		if check := tread.Check(s.q, s.set, loop); check != api.OK || !goesRound(s.set, loop) {
			t.Errorf("Check(%d, %q, %q) = %d", s.q, s.set, loop, check)
		}
	}
}

// numberOf returns what Count returns, and whether it returns a number.
func numberOf(t *testing.T, q int, set []string, n int) (int, bool) {
	t.Helper()
	number, e := tread.Count(q, set, n)
	if e != api.OK && e != api.ErrFull {
		t.Fatalf("Count(%d, %q, %d): error %d", q, set, n, e)
	}
	return number, e == api.OK
}

// P2.6: Tidy avoids the same words.
func TestTidyAvoidsTheSameWords(t *testing.T) {
	for _, s := range someSets() {
		tidy, e := tread.Tidy(s.q, s.set)
		if e != api.OK {
			t.Fatalf("Tidy(%d, %q): error %d", s.q, s.set, e)
		}
		for n := range api.MaxLong + 1 {
			before, ok := numberOf(t, s.q, s.set, n)
			after, okAfter := numberOf(t, s.q, tidy, n)
			if before != after || ok != okAfter {
				t.Errorf("%d, %q avoid %d words of length %d, %q avoid %d", s.q, s.set, before, n, tidy, after)
			}
		}
		if longest, _ := tread.Longest(s.q, s.set); longest != "" {
			if after, e := tread.Longest(s.q, tidy); after != longest || e != api.OK {
				t.Errorf("%d, %q: Longest is %q, of %q it is %q", s.q, s.set, longest, tidy, after)
			}
		}
	}
}

// P2.6: Count for n + m is at most Count for n times Count for m.
func TestCountOfTwoParts(t *testing.T) {
	for _, s := range someSets() {
		var numbers []int
		for n := range api.MaxLong + 1 {
			if number, ok := numberOf(t, s.q, s.set, n); ok {
				numbers = append(numbers, number)
			}
		}
		for n, first := range numbers {
			for m, second := range numbers[:len(numbers)-n] {
				both := numbers[n+m]
				if first == 0 && both > 0 || first > 0 && (both+first-1)/first > second {
					t.Fatalf("Count(%d, %q) is %d for %d, %d for %d, %d for both", s.q, s.set, first, n, second, m, both)
				}
			}
		}
	}
}

// P2.6: a larger set is avoided by no other words.
func TestLargerSets(t *testing.T) {
	const n = 5
	for _, s := range someSets() {
		number, _ := numberOf(t, s.q, s.set, n)
		for i := range s.set {
			smaller := slices.Concat(s.set[:i], s.set[i+1:])
			if more, _ := numberOf(t, s.q, smaller, n); more < number {
				t.Errorf("%d words avoid %q, %d avoid %q", more, smaller, number, s.set)
			}
			for k := 0; k < number; k += 1 + i {
				word, e := tread.Item(s.q, s.set, n, k)
				if e != api.OK {
					t.Fatalf("Item(%d, %q, %d, %d): error %d", s.q, s.set, n, k, e)
				}
				if _, e := tread.Index(s.q, smaller, word); e != api.OK {
					t.Fatalf("Index(%d, %q, %q): error %d", s.q, smaller, word, e)
				}
			}
		}
	}
}

// calls returns all results of one call of each function, as texts.
func calls(q int, set []string) [][]string {
	longest, _ := tread.Longest(q, set)
	loop, _ := tread.Loop(q, set)
	item, _ := tread.Item(q, set, 3, 0)
	extended, _ := tread.Extend(q, set, "b", 4)
	tidy, _ := tread.Tidy(q, set)
	needed, _ := tread.Needed(q, set)
	few, _ := tread.Few(q, 3)
	rings, _ := tread.Rings(q, 3)
	tread.Check(q, set, "ab")
	tread.Count(q, set, 5)
	tread.Index(q, set, "ab")
	tread.Growth(q, set)
	return append(rings, []string{longest, loop, item, extended}, tidy, needed, few)
}

// Rule 5 and P2: the same call twice has the same result, and changes nothing that it was given.
func TestArgumentsStayAsTheyAre(t *testing.T) {
	for _, s := range someSets() {
		// What lies behind the set in its memory must stay, too.
		memory := append(slices.Clone(s.set), "x", "y")
		set := memory[:len(s.set)]
		first, second := calls(s.q, set), calls(s.q, set)
		if !same(first, second) {
			t.Errorf("%d, %q: one call returns %q, the next one %q", s.q, s.set, first, second)
		}
		if !slices.Equal(memory, append(slices.Clone(s.set), "x", "y")) {
			t.Errorf("%q has become %q", s.set, memory)
		}
	}
}

// Rule 5: results share no memory with arguments or with each other.
func TestResultsAreNewMemory(t *testing.T) {
	set := []string{"aa", "ab", "bb"}
	check := func(name string, call func() []string) {
		t.Helper()
		want, spoilt := call(), call()
		for i := range spoilt {
			spoilt[i] = "x"
		}
		_ = append(spoilt, "x")
		if got := call(); !slices.Equal(got, want) || !slices.Equal(set, []string{"aa", "ab", "bb"}) {
			t.Errorf("%s = %q after a change of its result, not %q; the set is %q", name, got, want, set)
		}
	}
	check("Tidy", func() []string { l, _ := tread.Tidy(2, set); return l })
	check("Needed", func() []string { l, _ := tread.Needed(2, set); return l })
	check("Few", func() []string { l, _ := tread.Few(2, 4); return l })
	rings, _ := tread.Rings(2, 4)
	for i, ring := range rings {
		_ = append(ring, "x", "x", "x", "x")
		for k := range ring {
			ring[k] = "x"
		}
		if i+1 < len(rings) && !same(rings[i+1:], ringsOf(2, 4)[i+1:]) {
			t.Fatalf("rings %d share memory", i)
		}
	}
}
