package dag_test

import (
	"math"
	"math/rand"
	"slices"
	"testing"

	"credence/api"
	"credence/dag"
	"credence/samples"
)

// 14.4: Above, Below.

// checkAbove and checkBelow hold Above and Below of P against their rows.
func checkAbove(t *testing.T, points, want string, code api.Errno) {
	t.Helper()
	if got, e := dag.Above(p(), list(points)...); !slices.Equal(got, list(want)) || e != code {
		t.Errorf("Above(P, %s): %v, %v, want %s, %v", points, got, e, want, code)
	}
}

func checkBelow(t *testing.T, points, want string, code api.Errno) {
	t.Helper()
	if got, e := dag.Below(p(), list(points)...); !slices.Equal(got, list(want)) || e != code {
		t.Errorf("Below(P, %s): %v, %v, want %s, %v", points, got, e, want, code)
	}
}

// TestExamplesOfAbove: the chapter's rows.
func TestExamplesOfAbove(t *testing.T) {
	checkAbove(t, "3", "0 1 2 3", api.OK)
	checkAbove(t, "1 2", "0 1 2", api.OK)
	checkAbove(t, "", "", api.OK)
	checkBelow(t, "1", "1 3", api.OK)
	checkAbove(t, "4", "", api.ErrRange)
	checkBelow(t, "-1", "", api.ErrRange)
}

// TestReached: points by way of others, named twice, in any order.
func TestReached(t *testing.T) {
	checkAbove(t, "0", "0", api.OK)
	checkAbove(t, "1", "0 1", api.OK)
	checkAbove(t, "2 1 2", "0 1 2", api.OK)
	checkAbove(t, "3 0 3 1", "0 1 2 3", api.OK)
	checkBelow(t, "0", "0 1 2 3", api.OK)
	checkBelow(t, "3", "3", api.OK)
	checkBelow(t, "2 1", "1 2 3", api.OK)
	checkBelow(t, "3 3", "3", api.OK)
	checkBelow(t, "", "", api.OK)
	for _, none := range [][][]int{nil, {}} {
		checkReached(t, none, nil)
		checkReached(t, none, []int{})
		checkReached(t, none, []int{0})
	}
}

// TestNoPoints: wherever what is no point stands among those that are.
func TestNoPoints(t *testing.T) {
	for _, wrong := range []int{math.MinInt, -2, -1, 4, 5, 1 << 32, math.MaxInt} {
		for _, points := range [][]int{{wrong}, {wrong, 0}, {0, wrong}, {3, 1, wrong, 2}, {wrong, wrong}} {
			checkReached(t, p(), points)
			if _, e := dag.Above(p(), points...); e != api.ErrRange {
				t.Errorf("Above(P; %v): %v", points, e)
			}
			if _, e := dag.Below(p(), points...); e != api.ErrRange {
				t.Errorf("Below(P; %v): %v", points, e)
			}
		}
	}
}

// TestErrorsOfReached: Check's error comes first, also where no point is named,
// or one that what is wrong has no part in.
func TestErrorsOfReached(t *testing.T) {
	for text, want := range map[string]api.Errno{"| 4 | |": api.ErrRange, "| 0 0 |": api.ErrTwice, "| 1": api.ErrCycle, "| | 3 | 2": api.ErrCycle} {
		for _, points := range [][]int{nil, {0}, {1}, {0, 1}, {-1}, {9}, {0, 9}} {
			above, e := dag.Above(hung(text), points...)
			below, f := dag.Below(hung(text), points...)
			if e != want || f != want || len(above)+len(below) > 0 {
				t.Errorf("%s; %v: %v, %v and %v, %v, want %v", text, points, above, e, below, f, want)
			}
		}
	}
}

// TestSmallReached: all ways in which up to three points hang on one another,
// with all short lists of points, some of them none.
func TestSmallReached(t *testing.T) {
	for parents := range small(3) {
		for points := range samples.ListsOf([]int{-1, 0, 1, 2, 3}, 3) {
			checkReached(t, parents, points)
		}
	}
}

// TestSmallReachedByEach: four points, of which one or two are named.
func TestSmallReachedByEach(t *testing.T) {
	for parents := range small(4) {
		if len(parents) < 4 || dag.Check(parents) != api.OK {
			continue
		}
		for points := range samples.ListsOf([]int{0, 1, 2, 3}, 2) {
			checkReached(t, parents, points)
		}
	}
}

// TestDrawnReached: more points.
func TestDrawnReached(t *testing.T) {
	source := rand.New(rand.NewSource(144))
	for i := range 2000 {
		parents := drawn(source, 2+i%14, 1+i%3, false)
		points := make([]int, source.Intn(4))
		for j := range points {
			points[j] = source.Intn(len(parents))
		}
		checkReached(t, parents, points)
	}
}

// TestLongReached: many points, in a row or with many ways between them, are no
// burden.
func TestLongReached(t *testing.T) {
	const many = 200000
	if got, e := dag.Above(chain(many), 7); !slices.Equal(got, numbers(many)[7:]) || e != api.OK {
		t.Errorf("above, in a chain: %d points, %v", len(got), e)
	}
	if got, e := dag.Below(chain(many), many-7, 5); !slices.Equal(got, numbers(many-6)) || e != api.OK {
		t.Errorf("below, in a chain: %d points, %v", len(got), e)
	}
	// All that come ahead: there are 2^498 ways from the first to the last.
	const few = 500
	parents := samples.FullParents(few)
	if got, e := dag.Above(parents, few-1); !slices.Equal(got, numbers(few)) || e != api.OK {
		t.Errorf("above, all on all ahead: %d points, %v", len(got), e)
	}
	if got, e := dag.Below(parents, 0); !slices.Equal(got, numbers(few)) || e != api.OK {
		t.Errorf("below, all on all ahead: %d points, %v", len(got), e)
	}
}
