package camber_test

import (
	"math"
	"slices"
	"testing"

	"remould/api"
	"remould/camber"
)

// P9.2: Path, with all triples.
func TestPathOfAllTriples(t *testing.T) {
	for _, x := range withPaths() {
		if path, e := camber.Path(x.triple); path != x.path || e != api.OK {
			t.Errorf("Path(%v) = %q, %d, want %q", x.triple, path, e, x.path)
		}
	}
	for _, l := range [][3]int{{1, 1, 1}, {1, 1, 2}} {
		if path, e := camber.Path(l); path != "" || e != api.ErrNone {
			t.Errorf("Path(%v) = %q, %d", l, path, e)
		}
	}
}

// P9.2: Follow, with all short paths, and some long ones.
func TestFollowAgainstTree(t *testing.T) {
	triples := map[string][3]int{}
	for _, x := range withPaths() {
		triples[x.path] = x.triple
	}
	reached := 0
	for _, path := range allPaths() {
		want, found := triples[path]
		wantErr := api.ErrFull
		if found {
			wantErr = api.OK
			reached++
		}
		if l, e := camber.Follow(path); l != want || e != wantErr {
			t.Errorf("Follow(%q) = %v, %d, want %v, %d", path, l, e, want, wantErr)
		}
	}
	if reached < 50 {
		t.Errorf("only %d paths lead to triples", reached)
	}
	for path, want := range triples {
		if l, e := camber.Follow(path); l != want || e != api.OK {
			t.Errorf("Follow(%q) = %v, %d, want %v", path, l, e, want)
		}
	}
}

// P9.2: Path and Follow, with examples.
func TestPathExamples(t *testing.T) {
	for _, x := range []struct {
		path   string
		triple [3]int
	}{
		{"", [3]int{1, 2, 5}},
		{"L", [3]int{2, 5, 29}},
		{"R", [3]int{1, 5, 13}},
		{"LR", [3]int{2, 29, 169}},
		{"RL", [3]int{5, 13, 194}},
		{"LLL", [3]int{29, 433, 37666}},
		{"RRR", [3]int{1, 34, 89}},
	} {
		path, e := camber.Path(x.triple)
		l, f := camber.Follow(x.path)
		if path != x.path || l != x.triple || e != api.OK || f != api.OK {
			t.Errorf("Path(%v) = %q, %d, Follow(%q) = %v, %d", x.triple, path, e, x.path, l, f)
		}
	}
}

// P9.2: strings that are no paths, also if their beginnings lead too far.
func TestNoPaths(t *testing.T) {
	for _, path := range noPaths() {
		if l, e := camber.Follow(path); l != [3]int{} || e != api.ErrArg {
			t.Errorf("Follow(%q) = %v, %d", path, l, e)
		}
		if word, e := camber.Word(path); word != "" || e != api.ErrArg {
			t.Errorf("Word(%q) = %q, %d", path, word, e)
		}
		if fraction, e := camber.Fraction(path); fraction != (api.Frac{}) || e != api.ErrArg {
			t.Errorf("Fraction(%q) = %v, %d", path, fraction, e)
		}
	}
}

// P9.2: All, with triples that are found without the tree.
func TestAllAgainstSearch(t *testing.T) {
	const greatest = 10000000
	triples := searched(greatest)
	for most := 1; most <= greatest; most += 1 + most/50 {
		if all, e := camber.All(most); !slices.Equal(all, upTo(triples, most)) || e != api.OK {
			t.Errorf("All(%d) = %v, %d", most, all, e)
		}
	}
	if all, e := camber.All(greatest); !slices.Equal(all, triples) || e != api.OK {
		t.Errorf("All(%d) = %v, %d", greatest, all, e)
	}
}

// P9.2: All, with each bound that makes a difference.
func TestAllAgainstTree(t *testing.T) {
	triples := allTriples()
	if all, e := camber.All(api.MaxTriple); !slices.Equal(all, triples) || e != api.OK {
		t.Errorf("All(%d) = %v, %d", api.MaxTriple, all, e)
	}
	for _, l := range triples {
		for _, most := range []int{l[2] - 1, l[2], l[2] + 1} {
			all, e := camber.All(most)
			if want := upTo(triples, most); most > 0 && (!slices.Equal(all, want) || e != api.OK) {
				t.Errorf("All(%d) = %v, %d, want %v", most, all, e, want)
			}
		}
	}
}

// P9.2: All, with the greatest numbers of the first triples, which are well known.
func TestAllKnownNumbers(t *testing.T) {
	known := []int{1, 2, 5, 13, 29, 34, 89, 169, 194, 233, 433, 610, 985, 1325, 1597, 2897, 4181, 5741, 6466, 7561, 9077, 10946, 14701, 28657, 33461, 37666, 43261, 51641, 62210, 75025, 96557, 135137, 195025, 196418, 294685, 426389, 499393, 514229, 646018, 925765}
	all, e := camber.All(1000000)
	var last []int
	for _, l := range all {
		last = append(last, l[2])
	}
	if !slices.Equal(last, known) || e != api.OK {
		t.Errorf("All(1000000) = %v, %d", all, e)
	}
}

// P9.2: invalid arguments of All.
func TestAllErrors(t *testing.T) {
	for _, most := range append(noNumbers(api.MaxTriple), 3*api.MaxTriple, math.MaxInt-1) {
		if all, e := camber.All(most); len(all) != 0 || e != api.ErrArg {
			t.Errorf("All(%d) = %v, %d", most, all, e)
		}
	}
}
