package prune_test

import (
	"math"
	"slices"
	"testing"

	"credence/api"
	"credence/dag"
	"credence/prune"
	"credence/samples"
)

// 17.1, 17.2: the errors of both calls.

// checkRefused: both calls tell an error, and nothing beside it, whatever is
// left out.
func checkRefused(t *testing.T, parents [][]int, asked, given []int, want api.Errno) {
	t.Helper()
	if got, e := prune.Barren(parents, asked, given); len(got) > 0 || e != want {
		t.Errorf("Barren(%v, %v; given %v): %v, %v, want %v", parents, asked, given, got, e, want)
	}
	for _, w := range eachWay() {
		if got, e := prune.Kept(parents, asked, given, w.barren, w.apart); len(got) > 0 || e != want {
			t.Errorf("Kept(%v, %v; given %v; %v): %v, %v, want %v", parents, asked, given, w, got, e, want)
		}
	}
}

// TestNoPoints: what is no point, wherever it is named. (Points from 5 to 9 are
// those that might be put above P's.)
func TestNoPoints(t *testing.T) {
	for _, wrong := range []int{math.MinInt, math.MinInt32, -6, -5, -2, -1, 5, 6, 7, 8, 9, 10, 1 << 31, 1 << 32, 1<<32 + 1, math.MaxInt} {
		for _, l := range [][]int{{wrong}, {wrong, wrong}, {0, wrong, 2}, {wrong, 4}, {4, wrong}} {
			for _, right := range [][]int{nil, {0}, {2, 1}, {0, 1, 2, 3, 4}} {
				checkRefused(t, p(), l, right, api.ErrRange)
				checkRefused(t, p(), right, l, api.ErrRange)
			}
			checkRefused(t, p(), l, l, api.ErrRange)
		}
		for _, none := range [][][]int{nil, {}} {
			checkRefused(t, none, []int{wrong}, nil, api.ErrRange)
			checkRefused(t, none, nil, []int{wrong}, api.ErrRange)
		}
	}
	checkRefused(t, nil, []int{0}, nil, api.ErrRange)
	checkRefused(t, nil, nil, []int{0}, api.ErrRange)
}

// TestWrongParents: what is wrong with parents comes first, also where no point
// is named, or one that is none.
func TestWrongParents(t *testing.T) {
	for text, want := range map[string]api.Errno{
		"| 4 | |": api.ErrRange, "| | -1": api.ErrRange, "0 0 | 2": api.ErrRange, "| 3 |": api.ErrRange, "| 0 0 |": api.ErrTwice, "1 1 | 0": api.ErrTwice, "0": api.ErrCycle, "| 1": api.ErrCycle, "| | 3 | 2": api.ErrCycle, "1 | 2 | 0": api.ErrCycle,
	} {
		for _, asked := range [][]int{nil, {0}, {-1}, {9}, {0, 9}} {
			for _, given := range [][]int{nil, {0}, {-1}, {math.MaxInt}} {
				checkRefused(t, hung(text), asked, given, want)
			}
		}
	}
}

// TestWrongAndRight: all short lists of parents, whatever is wrong with them.
func TestWrongAndRight(t *testing.T) {
	lists := slices.Collect(samples.ListsOf([]int{-1, 0, 1, 2}, 2))
	for parents := range samples.ListsOf(lists, 2) {
		want := dag.Check(parents)
		if want == api.OK {
			checkRefused(t, parents, list("2"), nil, api.ErrRange)
			checkRefused(t, parents, nil, list("2"), api.ErrRange)
			continue
		}
		checkRefused(t, parents, nil, nil, want)
		checkRefused(t, parents, list("1"), list("-1"), want)
	}
}
