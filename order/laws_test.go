package order_test

import (
	"math/rand"
	"slices"
	"testing"

	"credence/api"
	"credence/graph"
	"credence/order"
	"credence/samples"
)

// 18.5: what follows.

// checkPasses: what both ways answer passes Check with the points.
func checkPasses(t *testing.T, g *graph.Graph, points []int) {
	t.Helper()
	for _, w := range ways() {
		got := w.taken(t, g, points)
		if e := order.Check(got, points); e != api.OK {
			t.Fatalf("%v: %s(%v): %v: %v", told(g), w.name, points, got, e)
		}
	}
}

// checkTogether: each two neighbours stand together in one of the cliques that
// an order of all points makes.
func checkTogether(t *testing.T, g *graph.Graph, all []int) {
	t.Helper()
	cliques := cliquesOf(t, g, all)
	for edge := range g.Edges() {
		both := func(clique []int) bool {
			return slices.Contains(clique, edge.From) && slices.Contains(clique, edge.To)
		}
		if !slices.ContainsFunc(cliques, both) {
			t.Fatalf("%v in the order %v: %v is in none of %v", told(g), all, edge, cliques)
		}
	}
}

// checkNoneIn: Fill's order puts no edge in, and each clique is one of the graph
// itself.
func checkNoneIn(t *testing.T, g *graph.Graph) {
	t.Helper()
	all := ways()[0].taken(t, g, numbers(g.Len()))
	for _, clique := range cliquesOf(t, g, all) {
		for i, a := range clique {
			for _, b := range clique[:i] {
				if !g.Has(a, b) {
					t.Fatalf("%v is chordal, and in the order %v %v is a clique", told(g), all, clique)
				}
			}
		}
	}
	rest := g.Among(all)
	for _, point := range all {
		if _, put := rest.Remove(point); len(put) > 0 {
			t.Fatalf("%v is chordal, and in the order %v %v are put in", told(g), all, put)
		}
	}
}

// TestSmallLaws: all graphs of up to five points.
func TestSmallLaws(t *testing.T) {
	for p := range small(5) {
		g := made(t, len(p), p.Edges())
		for _, points := range choices(len(p)) {
			checkPasses(t, g, points)
		}
		for _, w := range ways() {
			checkTogether(t, g, w.taken(t, g, numbers(len(p))))
		}
		if g.Chordal() {
			checkNoneIn(t, g)
		}
	}
}

// TestAllOrders: all orders of all points of graphs of up to four.
func TestAllOrders(t *testing.T) {
	for p := range small(4) {
		g := made(t, len(p), p.Edges())
		for _, all := range orders(numbers(len(p))) {
			checkTogether(t, g, all)
		}
	}
}

// TestSixChordal: all graphs of six points that are chordal.
func TestSixChordal(t *testing.T) {
	count := 0
	for bits := range 1 << 15 {
		if g := made(t, 6, unfolded(6, bits).Edges()); g.Chordal() {
			checkNoneIn(t, g)
			count++
		}
	}
	if count != 18154 {
		t.Errorf("%d are chordal", count)
	}
}

// TestDrawnLaws: more points, some of them or all.
func TestDrawnLaws(t *testing.T) {
	source := rand.New(rand.NewSource(185))
	for i := range 300 {
		p := drawn(source, 1+source.Intn(70), 1+i%30)
		g := made(t, len(p), p.Edges())
		checkPasses(t, g, source.Perm(len(p))[:source.Intn(len(p)+1)])
		checkPasses(t, g, source.Perm(len(p)))
		checkTogether(t, g, source.Perm(len(p)))
		for _, w := range ways() {
			checkTogether(t, g, w.taken(t, g, numbers(len(p))))
		}
	}
}

// filled is a graph with all edges that are put in while its points are taken
// out, so that it is chordal.
func filled(g *graph.Graph, all []int) *graph.Graph {
	out, rest := g.Among(all), g.Among(all)
	for _, point := range all {
		_, put := rest.Remove(point)
		for _, edge := range put {
			out.Join(edge.From, edge.To)
		}
	}
	return out
}

// TestDrawnChordal: more points, made chordal in any order.
func TestDrawnChordal(t *testing.T) {
	source := rand.New(rand.NewSource(285))
	for i := range 300 {
		p := drawn(source, 5+source.Intn(60), 1+i%20)
		checkNoneIn(t, filled(made(t, len(p), p.Edges()), source.Perm(len(p))))
	}
}

// TestGreatestLaws: as many points as may be.
func TestGreatestLaws(t *testing.T) {
	source := rand.New(rand.NewSource(385))
	g, e := graph.Moral(samples.DrawnParents(source, api.MaxVars, 1, false))
	if e != api.OK {
		t.Fatalf("Moral: %v", e)
	}
	checkPasses(t, g, source.Perm(g.Len()))
	for _, w := range ways() {
		all := w.taken(t, g, numbers(g.Len()))
		checkTogether(t, g, all)
		checkNoneIn(t, filled(g, all))
	}
}
