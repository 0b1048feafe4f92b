package order_test

import (
	"cmp"
	"math"
	"slices"
	"testing"

	"credence/api"
	"credence/graph"
	"credence/order"
	"credence/samples"
)

// Short names for what samples makes.
type plain = samples.Plain

var (
	list     = samples.List
	hung     = samples.Hung
	numbers  = samples.Numbers
	alike    = samples.SameLists
	choices  = samples.Choices
	orders   = samples.Orders
	edges    = samples.Edges
	small    = samples.SmallGraphs
	unfolded = samples.UnfoldedGraph
	drawn    = samples.DrawnGraph
	some     = samples.DrawnNumbers
)

// made is a graph of some length with some edges.
func made(t *testing.T, count int, some []api.Edge) *graph.Graph {
	t.Helper()
	g, e := graph.New(count)
	if e != api.OK {
		t.Fatalf("New(%d): %v", count, e)
	}
	for _, edge := range some {
		g.Join(edge.From, edge.To)
	}
	return g
}

// ring is the chapter's graph.
func ring(t *testing.T) *graph.Graph {
	t.Helper()
	return made(t, 5, edges("0-1 1-2 2-3 0-3 3-4"))
}

// told are the edges that a graph goes over.
func told(g *graph.Graph) []api.Edge { return slices.Collect(g.Edges()) }

// strangers are numbers that are no points of a graph of some length, beside
// its ends and far away.
func strangers(count int) []int {
	return []int{-1, -2, -64, -1024, count, count + 1, count + 63, 1024 + count, 1 << 31, 1 << 32, 1<<32 + 1, math.MinInt32, math.MinInt, math.MaxInt}
}

// A way is one to an order, with what it goes by.
type way struct {
	name  string
	call  func(g *graph.Graph, points []int) ([]int, api.Errno)
	weigh func(g *graph.Graph, point int) int
	judge func(p plain, point int) int
}

// ways are both.
func ways() []way {
	return []way{
		{"Fill", order.Fill, (*graph.Graph).Fill, func(p plain, point int) int { return len(p.Wanting(point)) }},
		{"Degree", order.Degree, func(g *graph.Graph, point int) int { return len(g.Near(point)) }, func(p plain, point int) int { return len(p.Near(point)) }},
	}
}

// taken is what a way answers, which must go well.
func (w way) taken(t *testing.T, g *graph.Graph, points []int) []int {
	t.Helper()
	got, e := w.call(g, points)
	if e != api.OK {
		t.Fatalf("%v: %s(%v): %v", told(g), w.name, points, e)
	}
	return got
}

// cliquesOf is what Cliques answers, which must go well.
func cliquesOf(t *testing.T, g *graph.Graph, points []int) [][]int {
	t.Helper()
	got, e := order.Cliques(g, points)
	if e != api.OK {
		t.Fatalf("%v: Cliques(%v): %v", told(g), points, e)
	}
	return got
}

// The judges: what should be told, by the words of the chapter and nothing
// better.

// inTurn are some points by a way.
func (w way) inTurn(p plain, points []int) []int {
	rest := p.Clone()
	left := slices.Sorted(slices.Values(points))
	var out []int
	for len(left) > 0 {
		// Of equal ones this is the first, which is the least number.
		next := slices.MinFunc(left, func(a, b int) int { return cmp.Compare(w.judge(rest, a), w.judge(rest, b)) })
		rest.Remove(next)
		out = append(out, next)
		left = slices.DeleteFunc(left, func(point int) bool { return point == next })
	}
	return out
}

// plainCliques are each point and its neighbours, as they are taken out.
func plainCliques(p plain, points []int) [][]int {
	rest := p.Clone()
	var out [][]int
	for _, point := range points {
		clique := append(rest.Near(point), point)
		slices.Sort(clique)
		out = append(out, clique)
		rest.Remove(point)
	}
	return out
}

// widthOf is how many the largest clique has, less 1; 0, if there is none.
func widthOf(cliques [][]int) int {
	if len(cliques) == 0 {
		return 0
	}
	largest := slices.MaxFunc(cliques, func(a, b []int) int { return cmp.Compare(len(a), len(b)) })
	return len(largest) - 1
}

// checkWays holds what both ways tell of some points against the judges; the
// graph must stay what it is.
func checkWays(t *testing.T, p plain, points []int) {
	t.Helper()
	g := made(t, len(p), p.Edges())
	for _, w := range ways() {
		if got, want := w.taken(t, g, points), w.inTurn(p, points); !slices.Equal(got, want) {
			t.Fatalf("%d points, %v: %s(%v): %v, want %v", len(p), p.Edges(), w.name, points, got, want)
		}
	}
	checkUnchanged(t, g, p)
}

// checkCliques holds what an order makes against the judges; the graph must stay
// what it is.
func checkCliques(t *testing.T, p plain, points []int) {
	t.Helper()
	g := made(t, len(p), p.Edges())
	want := plainCliques(p, points)
	if got := cliquesOf(t, g, points); !alike(got, want) {
		t.Fatalf("%d points, %v: Cliques(%v): %v, want %v", len(p), p.Edges(), points, got, want)
	}
	if got, e := order.Width(g, points); got != widthOf(want) || e != api.OK {
		t.Fatalf("%d points, %v: Width(%v): %d, %v, want %d", len(p), p.Edges(), points, got, e, widthOf(want))
	}
	checkUnchanged(t, g, p)
}

// checkUnchanged: a graph has the edges that it was made of.
func checkUnchanged(t *testing.T, g *graph.Graph, p plain) {
	t.Helper()
	if g.Len() != len(p) || !slices.Equal(told(g), p.Edges()) {
		t.Fatalf("the graph was %v and is %v", p.Edges(), told(g))
	}
}
