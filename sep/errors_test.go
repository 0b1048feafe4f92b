package sep_test

import (
	"math"
	"testing"

	"credence/api"
	"credence/dag"
	"credence/samples"
	"credence/sep"
)

// 16.1: the errors of all calls.

// checkRefused: all calls in which a wrong number can be named tell an error,
// and nothing beside it; the number is laid in each place in turn, if there is
// one.
func checkRefused(t *testing.T, parents [][]int, wrong []int, want api.Errno) {
	t.Helper()
	for _, right := range [][]int{nil, {0}, {0, 1, 0}} {
		for place, l := range [][3][]int{{wrong, right, right}, {right, wrong, right}, {right, right, wrong}, {wrong, wrong, wrong}} {
			if got, e := sep.Apart(parents, l[0], l[1], l[2]); got || e != want {
				t.Errorf("%v: Apart(%v; %v; %v): %v, %v, want %v", parents, l[0], l[1], l[2], got, e, want)
			}
			if place == 1 {
				continue
			}
			if got, e := sep.Reach(parents, l[0], l[2]); len(got) > 0 || e != want {
				t.Errorf("%v: Reach(%v; %v): %v, %v, want %v", parents, l[0], l[2], got, e, want)
			}
		}
		if got, e := sep.Trail(parents, 0, 0, append(wrong, right...)); len(got) > 0 || e != want {
			t.Errorf("%v: Trail(0, 0; %v): %v, %v, want %v", parents, wrong, got, e, want)
		}
	}
	for _, x := range wrong {
		for _, given := range [][]int{nil, {0}, {x}} {
			if got, e := sep.Trail(parents, x, 0, given); len(got) > 0 || e != want {
				t.Errorf("%v: Trail(%d, 0; %v): %v, %v, want %v", parents, x, given, got, e, want)
			}
			if got, e := sep.Trail(parents, 0, x, given); len(got) > 0 || e != want {
				t.Errorf("%v: Trail(0, %d; %v): %v, %v, want %v", parents, x, given, got, e, want)
			}
			if got, e := sep.Trail(parents, x, x, given); len(got) > 0 || e != want {
				t.Errorf("%v: Trail(%d, %d; %v): %v, %v, want %v", parents, x, x, given, got, e, want)
			}
		}
		if got, e := sep.Blanket(parents, x); len(got) > 0 || e != want {
			t.Errorf("%v: Blanket(%d): %v, %v, want %v", parents, x, got, e, want)
		}
	}
}

// TestExamplesOfErrors: the chapter's row.
func TestExamplesOfErrors(t *testing.T) {
	if got, e := sep.Reach(p(), list("5"), nil); len(got) > 0 || e != api.ErrRange {
		t.Errorf("Reach(P, 5): %v, %v", got, e)
	}
	if got, e := sep.Trail(p(), 0, 0, list("-1")); len(got) > 0 || e != api.ErrRange {
		t.Errorf("Trail(P, 0, 0; -1): %v, %v", got, e)
	}
	checkRefused(t, hung("1 | 0"), nil, api.ErrCycle)
}

// TestNoPoints: what is no point, wherever it is named.
func TestNoPoints(t *testing.T) {
	for _, wrong := range []int{math.MinInt, math.MinInt32, -2, -1, 5, 6, 1 << 31, 1 << 32, 1<<32 + 1, math.MaxInt} {
		for _, l := range [][]int{{wrong}, {wrong, wrong}} {
			checkRefused(t, p(), l, api.ErrRange)
			checkRefused(t, hung("1 |"), l, api.ErrRange)
		}
		for _, given := range []string{"0 1 2 3 4", "2"} {
			if got, e := sep.Reach(p(), []int{2, wrong}, list(given)); len(got) > 0 || e != api.ErrRange {
				t.Errorf("Reach(P, 2 %d; %s): %v, %v", wrong, given, got, e)
			}
			if got, e := sep.Apart(p(), list("2"), []int{4, wrong, 4}, list(given)); got || e != api.ErrRange {
				t.Errorf("Apart(P, 2; 4 %d 4; %s): %v, %v", wrong, given, got, e)
			}
		}
	}
}

// TestNoParents: of no points none may be named.
func TestNoParents(t *testing.T) {
	for _, none := range [][][]int{nil, {}} {
		checkRefused(t, none, list("0"), api.ErrRange)
		if got, e := sep.Reach(none, nil, nil); len(got) > 0 || e != api.OK {
			t.Errorf("Reach of none: %v, %v", got, e)
		}
		if got, e := sep.Apart(none, nil, nil, nil); !got || e != api.OK {
			t.Errorf("Apart of none: %v, %v", got, e)
		}
	}
}

// TestWrongParents: what is wrong with parents comes first, also where no point
// is named, or one that is none.
func TestWrongParents(t *testing.T) {
	for text, want := range map[string]api.Errno{
		"| 4 | |": api.ErrRange, "| | -1": api.ErrRange, "0 0 | 2": api.ErrRange, "| 0 0 |": api.ErrTwice, "1 1 | 0": api.ErrTwice, "| 1": api.ErrCycle, "| | 3 | 2": api.ErrCycle, "1 | 2 | 0": api.ErrCycle,
	} {
		checkRefused(t, hung(text), nil, want)
		for _, x := range []int{-1, 0, 1, 3, 9, math.MaxInt} {
			checkRefused(t, hung(text), []int{x}, want)
		}
	}
}

// TestWrongAndRight: all short lists of parents, whatever is wrong with them.
func TestWrongAndRight(t *testing.T) {
	var lists [][]int
	for l := range samples.ListsOf([]int{-1, 0, 1, 2}, 2) {
		lists = append(lists, l)
	}
	for parents := range samples.ListsOf(lists, 2) {
		want := dag.Check(parents)
		if want != api.OK {
			checkRefused(t, parents, list("1"), want)
			checkRefused(t, parents, list("-1"), want)
			continue
		}
		checkRefused(t, parents, list("2"), api.ErrRange)
	}
}
