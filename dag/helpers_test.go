package dag_test

import (
	"slices"
	"testing"

	"credence/api"
	"credence/dag"
	"credence/samples"
)

// Short names for what samples makes.
var (
	list    = samples.List
	hung    = samples.Hung
	small   = samples.SmallParents
	drawn   = samples.DrawnParents
	chain   = samples.RowOfParents
	numbers = samples.Numbers
	alike   = samples.SameLists
	hangs   = samples.Hangs
)

// p are the chapter's points.
func p() [][]int { return hung("| 0 | 0 | 2 1") }

// The judges: what should be told, by the words of the chapter and nothing
// better. They take their time, so that few points are judged.

// judged is what Check should tell.
func judged(parents [][]int) api.Errno {
	for _, l := range parents {
		for _, x := range l {
			if x < 0 || x >= len(parents) {
				return api.ErrRange
			}
		}
	}
	for _, l := range parents {
		for i, x := range l {
			if slices.Contains(l[:i], x) {
				return api.ErrTwice
			}
		}
	}
	if firstBack(parents) != nil {
		return api.ErrCycle
	}
	return api.OK
}

// firstBack is the way that leads back which Cycle should tell: all ways are
// tried, the shorter ones first, those of one length in order.
func firstBack(parents [][]int) []int {
	for length := 1; length <= len(parents); length++ {
		if way := grown(parents, nil, length); way != nil {
			return way
		}
	}
	return nil
}

// grown is the first way back of some length that goes on from a way, and whose
// first point is its least.
func grown(parents [][]int, way []int, length int) []int {
	if len(way) == length {
		if slices.Contains(parents[way[length-1]], way[0]) {
			return way
		}
		return nil
	}
	for point := range parents {
		if len(way) > 0 && (point <= way[0] || slices.Contains(way, point) || !slices.Contains(parents[way[len(way)-1]], point)) {
			continue
		}
		if found := grown(parents, append(slices.Clip(way), point), length); found != nil {
			return found
		}
	}
	return nil
}

// inOrder are the points as Order should tell them, of parents that may be.
func inOrder(parents [][]int) []int {
	var out []int
	for len(out) < len(parents) {
		for point, l := range parents {
			waits := func(parent int) bool { return !slices.Contains(out, parent) }
			if waits(point) && !slices.ContainsFunc(l, waits) {
				out = append(out, point)
				break
			}
		}
	}
	return out
}

// chosen are the points, rising, of which a question says yes at one of some.
func chosen(parents [][]int, points []int, question func(point, of int) bool) []int {
	var out []int
	for point := range parents {
		if slices.ContainsFunc(points, func(of int) bool { return question(point, of) }) {
			out = append(out, point)
		}
	}
	return out
}

// checkTold holds all that is told of parents alone against the judges.
func checkTold(t *testing.T, parents [][]int) {
	t.Helper()
	code := judged(parents)
	if e := dag.Check(parents); e != code {
		t.Fatalf("Check(%v): %v, want %v", parents, e, code)
	}
	var back []int
	if code == api.ErrCycle {
		back = firstBack(parents)
	}
	if way := dag.Cycle(parents); !slices.Equal(way, back) {
		t.Fatalf("Cycle(%v): %v, want %v", parents, way, back)
	}
	var order []int
	var children [][]int
	var edges []api.Edge
	if code == api.OK {
		order, children, edges = inOrder(parents), asChildren(parents), asEdges(parents)
	}
	if l, e := dag.Order(parents); !slices.Equal(l, order) || e != code {
		t.Fatalf("Order(%v): %v, %v, want %v, %v", parents, l, e, order, code)
	}
	if l, e := dag.Children(parents); !alike(l, children) || e != code {
		t.Fatalf("Children(%v): %v, %v, want %v, %v", parents, l, e, children, code)
	}
	if l, e := dag.Edges(parents); !slices.Equal(l, edges) || e != code {
		t.Fatalf("Edges(%v): %v, %v, want %v, %v", parents, l, e, edges, code)
	}
}

// asChildren are the children that there should be: each point is asked of each.
func asChildren(parents [][]int) [][]int {
	var out [][]int
	for parent := range parents {
		out = append(out, chosen(parents, []int{parent}, func(point, of int) bool { return slices.Contains(parents[point], of) }))
	}
	return out
}

// asEdges are the edges that there should be.
func asEdges(parents [][]int) []api.Edge {
	var out []api.Edge
	for point, l := range parents {
		for _, parent := range l {
			out = append(out, api.Edge{From: parent, To: point})
		}
	}
	return out
}

// checkReached holds Above and Below of some points against the judges.
func checkReached(t *testing.T, parents [][]int, points []int) {
	t.Helper()
	code := judged(parents)
	if code == api.OK && slices.ContainsFunc(points, func(x int) bool { return x < 0 || x >= len(parents) }) {
		code = api.ErrRange
	}
	var above, below []int
	if code == api.OK {
		above = chosen(parents, points, func(point, of int) bool { return hangs(parents, of, point) })
		below = chosen(parents, points, func(point, of int) bool { return hangs(parents, point, of) })
	}
	if l, e := dag.Above(parents, points...); !slices.Equal(l, above) || e != code {
		t.Fatalf("Above(%v; %v): %v, %v, want %v, %v", parents, points, l, e, above, code)
	}
	if l, e := dag.Below(parents, points...); !slices.Equal(l, below) || e != code {
		t.Fatalf("Below(%v; %v): %v, %v, want %v, %v", parents, points, l, e, below, code)
	}
}

// ring is a chain whose last point hangs on the first.
func ring(count int) [][]int {
	parents := chain(count)
	parents[count-1] = []int{0}
	return parents
}
