package dag_test

import (
	"math"
	"testing"

	"credence/api"
	"credence/dag"
	"credence/samples"
)

// 14.1: Check.

// checkCheck holds Check against its row.
func checkCheck(t *testing.T, parents [][]int, want api.Errno) {
	t.Helper()
	if e := dag.Check(parents); e != want {
		t.Errorf("Check(%v): %v, want %v", parents, e, want)
	}
}

// TestExamplesOfCheck: the chapter's rows.
func TestExamplesOfCheck(t *testing.T) {
	checkCheck(t, p(), api.OK)
	checkCheck(t, hung("1"), api.ErrRange)
	checkCheck(t, hung("0"), api.ErrCycle)
	checkCheck(t, hung("| 0 0"), api.ErrTwice)
	checkCheck(t, nil, api.OK)
	checkCheck(t, [][]int{}, api.OK)
}

// TestRange: a parent that is no point, wherever it stands.
func TestRange(t *testing.T) {
	for _, parent := range []int{math.MinInt, math.MinInt32, -2, -1, 3, 4, 1 << 31, 1 << 32, 1<<32 + 1, math.MaxInt} {
		for point := range 3 {
			for _, ahead := range [][]int{nil, {(point + 1) % 3}} {
				parents := make([][]int, 3)
				parents[point] = append(ahead, parent)
				checkCheck(t, parents, api.ErrRange)
			}
		}
	}
	checkCheck(t, hung("| 1 2 | "), api.ErrCycle)
	checkCheck(t, hung("2 1 | 2 |"), api.OK)
}

// TestTwice: a parent that comes again, next to itself or not; other points may
// have it too.
func TestTwice(t *testing.T) {
	for _, text := range []string{"1 1 |", "1 2 1 | |", "| | 0 1 1", "2 1 2 | 2 |", "| 0 | 0 | 1 2 0 1"} {
		checkCheck(t, hung(text), api.ErrTwice)
	}
	for _, text := range []string{"1 2 | 2 |", "| 0 | 0 | 0", "| 0 | 1 0 | 0 2 1 | 3 0 1 2"} {
		checkCheck(t, hung(text), api.OK)
	}
}

// TestBack: ways that lead back, by one point, by two, by all.
func TestBack(t *testing.T) {
	for _, text := range []string{"0", "1 | 0", "1 | 2 | 0", "2 | 0 | 1", "| 0 1", "| 0 2 | 0 3 | 0 1", "| | 2", "1 | | 3 | 2"} {
		checkCheck(t, hung(text), api.ErrCycle)
	}
}

// TestOrderOfErrors: ErrRange, ErrTwice, ErrCycle, wherever they stand.
func TestOrderOfErrors(t *testing.T) {
	for _, text := range []string{"0 | 0 0 | 3", "3 | 0 0 | 2", "0 0 3 | |", "3 0 0 | |", "0 | 0 0 -1", "-1 -1 | 1", "7 7"} {
		checkCheck(t, hung(text), api.ErrRange)
	}
	for _, text := range []string{"0 0", "0 | 0 0", "1 | 0 | 0 0", "1 1 | 0", "| 2 2 | 1"} {
		checkCheck(t, hung(text), api.ErrTwice)
	}
}

// TestWrongAndRight: all short lists, whatever is wrong with them.
func TestWrongAndRight(t *testing.T) {
	var lists [][]int
	for l := range samples.ListsOf([]int{-1, 0, 1, 2, 3}, 2) {
		lists = append(lists, l)
	}
	for parents := range samples.ListsOf(lists, 3) {
		checkTold(t, parents)
	}
}

// TestSmall: all ways in which up to four points hang on one another.
func TestSmall(t *testing.T) {
	for parents := range small(4) {
		checkTold(t, parents)
	}
}
