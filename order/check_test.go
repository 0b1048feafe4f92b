package order_test

import (
	"math"
	"slices"
	"testing"

	"credence/api"
	"credence/order"
	"credence/samples"
)

// 18.3: Check.

// timesOf is how often a number stands in a list.
func timesOf(l []int, number int) int {
	count := 0
	for _, x := range l {
		if x == number {
			count++
		}
	}
	return count
}

// mayBe is whether a list has each of some points just once and nothing else.
func mayBe(l, points []int) bool {
	for _, number := range slices.Concat(l, points) {
		if timesOf(l, number) != 1 || timesOf(points, number) != 1 {
			return false
		}
	}
	return true
}

// checkCheck holds Check against a row.
func checkCheck(t *testing.T, l, points []int, well bool) {
	t.Helper()
	want := api.ErrOrder
	if well {
		want = api.OK
	}
	if got := order.Check(l, points); got != want {
		t.Errorf("Check(%v, %v): %v, want %v", l, points, got, want)
	}
}

// TestExamplesOfCheck: the chapter's row.
func TestExamplesOfCheck(t *testing.T) {
	checkCheck(t, list("2 0 1"), list("0 1 2"), true)
	checkCheck(t, list("0 1"), list("0 1 2"), false)
	checkCheck(t, list("0 0"), list("0 0"), false)
	checkCheck(t, nil, nil, true)
}

func TestCheck(t *testing.T) {
	for _, c := range []struct {
		order, points string
		well          bool
	}{
		{"5", "5", true}, {"5", "4", false}, {"", "5", false}, {"5", "", false}, {"5 5", "5", false}, {"5", "5 5", false},
		// As many, but one twice, or another one; as much in all.
		{"0 1 1", "0 1 2", false}, {"0 1 2", "0 1 1", false}, {"0 1 1", "0 0 1", false}, {"0 1 3", "0 1 2", false}, {"0 3", "1 2", false}, {"1 1 1", "0 1 2", false}, {"0 1 2 3", "0 1 2", false},
		// Points need be none of any graph.
		{"-7 3000 1", "3000 1 -7", true}, {"-7", "7", false}, {"9 8 7", "8 7 9", true},
	} {
		checkCheck(t, list(c.order), list(c.points), c.well)
	}
	ends := []int{math.MinInt, math.MaxInt, 0, -1}
	for _, l := range orders(ends) {
		checkCheck(t, l, ends, true)
		checkCheck(t, l, ends[1:], false)
		checkCheck(t, l[1:], ends, false)
	}
	checkCheck(t, []int{math.MinInt}, []int{math.MaxInt}, false)
	checkCheck(t, []int{1 << 32}, []int{0}, false)
	checkCheck(t, []int{}, nil, true)
	checkCheck(t, nil, []int{}, true)
}

// TestShortChecks: all short lists, beside each other.
func TestShortChecks(t *testing.T) {
	lists := slices.Collect(samples.ListsOf([]int{-1, 0, 1, 5}, 3))
	for _, l := range lists {
		for _, points := range lists {
			checkCheck(t, l, points, mayBe(l, points))
		}
	}
}

// TestLongChecks: many points are no burden.
func TestLongChecks(t *testing.T) {
	const many = 200000
	l := numbers(many)
	slices.Reverse(l)
	checkLong := func(what string, l, points []int, want api.Errno) {
		if got := order.Check(l, points); got != want {
			t.Errorf("%s: %v, want %v", what, got, want)
		}
	}
	checkLong("from the last to the first", l, numbers(many), api.OK)
	checkLong("one is wanting", l[1:], numbers(many), api.ErrOrder)
	checkLong("one more", l, numbers(many)[1:], api.ErrOrder)
	l[many/2]++
	checkLong("one in the place of another", l, numbers(many), api.ErrOrder)
	checkLong("one twice in both", l, l, api.ErrOrder)
}
