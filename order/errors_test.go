package order_test

import (
	"slices"
	"testing"

	"credence/api"
	"credence/graph"
	"credence/order"
	"credence/samples"
)

// 18.1: the errors of Fill, Degree, Cliques and Width.

// checkRefused: all four tell an error, and nothing beside it.
func checkRefused(t *testing.T, g *graph.Graph, points []int, want api.Errno) {
	t.Helper()
	for _, w := range ways() {
		if got, e := w.call(g, points); got != nil || e != want {
			t.Errorf("%s(%v): %v, %v, want %v", w.name, points, got, e, want)
		}
	}
	if got, e := order.Cliques(g, points); got != nil || e != want {
		t.Errorf("Cliques(%v): %v, %v, want %v", points, got, e, want)
	}
	if got, e := order.Width(g, points); got != 0 || e != want {
		t.Errorf("Width(%v): %d, %v, want %v", points, got, e, want)
	}
}

// TestExamplesOfErrors: the chapter's row.
func TestExamplesOfErrors(t *testing.T) {
	g := ring(t)
	checkRefused(t, nil, nil, api.ErrNil)
	checkRefused(t, g, list("5"), api.ErrRange)
	checkRefused(t, g, list("1 1"), api.ErrTwice)
	checkRefused(t, g, list("1 1 9"), api.ErrRange)
}

// TestNoGraph: whatever else is wrong.
func TestNoGraph(t *testing.T) {
	for _, text := range []string{"", "0", "0 0", "-1", "3 1 2", "5 5"} {
		checkRefused(t, nil, list(text), api.ErrNil)
	}
}

// TestNoPoints: what is no point, wherever it is named, also where another one
// stands twice.
func TestNoPoints(t *testing.T) {
	for _, p := range []plain{unfolded(0, 0), unfolded(1, 0), unfolded(3, 5), unfolded(5, 1023)} {
		g := made(t, len(p), p.Edges())
		for _, wrong := range strangers(len(p)) {
			for _, l := range [][]int{{wrong}, {wrong, wrong}, slices.Concat(numbers(len(p)), []int{wrong}), {0, 0, wrong}, {wrong, 0, 0}, {0, wrong, 0}} {
				checkRefused(t, g, l, api.ErrRange)
			}
		}
		checkUnchanged(t, g, p)
	}
	great := made(t, api.MaxVars, nil)
	for _, wrong := range strangers(api.MaxVars) {
		checkRefused(t, great, []int{1023, wrong}, api.ErrRange)
	}
	checkRefused(t, great, numbers(api.MaxVars+1), api.ErrRange)
}

// TestTwice: at whatever places.
func TestTwice(t *testing.T) {
	g := ring(t)
	for _, text := range []string{"0 0", "4 4", "0 1 0", "1 0 1", "4 3 2 1 0 4", "0 1 2 3 4 2", "3 3 3", "0 0 1 1"} {
		checkRefused(t, g, list(text), api.ErrTwice)
	}
	checkRefused(t, g, slices.Repeat(numbers(5), 100000), api.ErrTwice)
	great := made(t, api.MaxVars, nil)
	checkRefused(t, great, append(numbers(api.MaxVars), 1023), api.ErrTwice)
	checkRefused(t, great, append(numbers(api.MaxVars), 0), api.ErrTwice)
}

// TestShortLists: all short lists, whatever is wrong with them.
func TestShortLists(t *testing.T) {
	p := unfolded(3, 3)
	g := made(t, 3, p.Edges())
	for l := range samples.ListsOf([]int{-1, 0, 1, 2, 3}, 4) {
		switch {
		case slices.ContainsFunc(l, func(point int) bool { return point < 0 || point > 2 }):
			checkRefused(t, g, l, api.ErrRange)
		case timesOf(l, 0) > 1 || timesOf(l, 1) > 1 || timesOf(l, 2) > 1:
			checkRefused(t, g, l, api.ErrTwice)
		default:
			checkWays(t, p, l)
			checkCliques(t, p, l)
		}
	}
}
