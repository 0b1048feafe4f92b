package dag_test

import (
	"math/rand"
	"slices"
	"testing"

	"credence/api"
	"credence/dag"
)

// 14.6: what follows.

// checkOrderly: each point stands behind all that it hangs on, and is above
// another just where that is below it.
func checkOrderly(t *testing.T, parents [][]int) {
	t.Helper()
	order, code := dag.Order(parents)
	if code != api.OK || len(order) != len(parents) {
		t.Fatalf("Order(%v): %v, %v", parents, order, code)
	}
	below := make([][]int, len(parents))
	for point := range parents {
		below[point], _ = dag.Below(parents, point)
	}
	for at, point := range order {
		above, code := dag.Above(parents, point)
		if code != api.OK {
			t.Fatalf("Above(%v; %d): %v", parents, point, code)
		}
		for other := range parents {
			in := slices.Contains(above, other)
			if in && !slices.Contains(order[:at+1], other) {
				t.Fatalf("%v: %d stands behind %d in %v", parents, other, point, order)
			}
			if in != slices.Contains(below[other], point) {
				t.Fatalf("%v: %d is above %d: %v, but it is below: %v", parents, other, point, in, !in)
			}
		}
	}
}

// checkBack: Cycle is a way that leads back, without a point twice, and there is
// none just where Order goes well.
func checkBack(t *testing.T, parents [][]int) {
	t.Helper()
	way := dag.Cycle(parents)
	order, code := dag.Order(parents)
	if (len(way) == 0) != (code == api.OK) || (len(way) == 0) != (len(order) == len(parents)) {
		t.Fatalf("%v: %v leads back, Order is %v, %v", parents, way, order, code)
	}
	for i, point := range way {
		if next := way[(i+1)%len(way)]; !slices.Contains(parents[point], next) {
			t.Fatalf("Cycle(%v): %v, but %d does not hang on %d", parents, way, point, next)
		}
		if slices.Contains(way[:i], point) || point < way[0] {
			t.Fatalf("Cycle(%v): %v has %d twice, or behind a greater one", parents, way, point)
		}
	}
}

func TestLawsOfOrder(t *testing.T) {
	source := rand.New(rand.NewSource(146))
	for i := range 300 {
		checkOrderly(t, drawn(source, 1+i%40, 1+i%6, false))
	}
	for parents := range small(3) {
		if len(dag.Cycle(parents)) == 0 && len(parents) > 0 {
			checkOrderly(t, parents)
		}
	}
}

func TestLawsOfCycle(t *testing.T) {
	source := rand.New(rand.NewSource(246))
	back := 0
	for i := range 3000 {
		parents := drawn(source, 1+i%60, 1, false)
		// Each second one is made to lead back, by a point above that is hung on
		// one below it.
		if point := source.Intn(len(parents)); len(parents) > 1 && i%2 == 0 {
			above, _ := dag.Above(parents, point)
			high := above[source.Intn(len(above))]
			if !slices.Contains(parents[high], point) {
				parents[high] = append(parents[high], point)
				back++
			}
		}
		checkBack(t, parents)
	}
	if back < 1000 {
		t.Errorf("%d times something was made to lead back", back)
	}
	for parents := range small(3) {
		checkBack(t, parents)
	}
}

// TestEdgesAreChildren: edges tell of each point who its children are.
func TestEdgesAreChildren(t *testing.T) {
	source := rand.New(rand.NewSource(346))
	for i := range 500 {
		parents := drawn(source, 1+i%30, 1+i%5, false)
		edges, _ := dag.Edges(parents)
		children := make([][]int, len(parents))
		for _, edge := range edges {
			children[edge.From] = append(children[edge.From], edge.To)
		}
		if got, code := dag.Children(parents); !alike(got, children) || code != api.OK {
			t.Fatalf("Children(%v): %v, %v, want %v", parents, got, code, children)
		}
	}
}
