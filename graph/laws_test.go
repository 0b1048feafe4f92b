package graph_test

import (
	"math/rand"
	"slices"
	"testing"

	"credence/api"
	"credence/graph"
)

// 15.8: what follows.

// checkTaken takes all points of a graph out in an order: the graph with all
// edges that were put in is chordal, and what was told each time is a clique of
// it. It tells how many edges were put in.
func checkTaken(t *testing.T, p plain, order []int) int {
	t.Helper()
	g := graphOf(t, p)
	filled := g.Among(numbers(len(p)))
	var cliques [][]int
	count := 0
	for _, a := range order {
		clique, put := g.Remove(a)
		cliques = append(cliques, clique)
		for _, edge := range put {
			if !filled.Join(edge.From, edge.To) {
				t.Fatalf("%v in the order %v: %v was put in twice", p.Edges(), order, edge)
			}
		}
		count += len(put)
	}
	if !filled.Chordal() {
		t.Fatalf("%v in the order %v: %v is not chordal", p.Edges(), order, told(filled))
	}
	if len(told(g)) > 0 {
		t.Fatalf("%v in the order %v: %v are left", p.Edges(), order, told(g))
	}
	for _, clique := range cliques {
		checkClique(t, filled, clique)
	}
	return count
}

// checkClique: each two have an edge.
func checkClique(t *testing.T, g *graph.Graph, clique []int) {
	t.Helper()
	for i, a := range clique {
		for _, b := range clique[:i] {
			if !g.Has(a, b) {
				t.Fatalf("%v: %v is no clique", told(g), clique)
			}
		}
	}
}

// TestAllOrders: all graphs of up to five points, in all orders: a graph is
// chordal just if one of these puts nothing in.
func TestAllOrders(t *testing.T) {
	for p := range small(5) {
		fewest := -1
		for _, order := range orders(numbers(len(p))) {
			if count := checkTaken(t, p, order); fewest < 0 || count < fewest {
				fewest = count
			}
		}
		if got := graphOf(t, p).Chordal(); got != (fewest == 0) {
			t.Fatalf("%d points, %v: Chordal: %v, but at least %d edges are put in", len(p), p.Edges(), got, fewest)
		}
	}
}

// takenFreely is whether all points can be taken out without an edge being put
// in; it does not matter which one of those that put none in goes first.
func takenFreely(g *graph.Graph) bool {
	left := numbers(g.Len())
	for len(left) > 0 {
		at := slices.IndexFunc(left, func(a int) bool { return g.Fill(a) == 0 })
		if at < 0 {
			return false
		}
		g.Remove(left[at])
		left = slices.Delete(left, at, at+1)
	}
	return true
}

// TestDrawnOrders: more points, in some orders.
func TestDrawnOrders(t *testing.T) {
	source := rand.New(rand.NewSource(158))
	for i := range 300 {
		p := drawn(source, 1+source.Intn(70), 1+i%30)
		checkTaken(t, p, source.Perm(len(p)))
		g := graphOf(t, p)
		if chordal := g.Chordal(); chordal != takenFreely(g) {
			t.Fatalf("%v: Chordal: %v", p.Edges(), chordal)
		}
	}
}

// TestFilled: a graph with all that was put in is chordal, without one of its
// edges it may be or not: both ways to say so agree.
func TestFilled(t *testing.T) {
	source := rand.New(rand.NewSource(258))
	chordal, others := 0, 0
	for range 300 {
		p := drawn(source, 5+source.Intn(40), 12)
		q := p.Clone()
		for _, a := range source.Perm(len(p)) {
			for _, edge := range q.Wanting(a) {
				p.Set(edge.From, edge.To, true)
			}
			q.Remove(a)
		}
		if all := p.Edges(); len(all) > 0 {
			edge := all[source.Intn(len(all))]
			p.Set(edge.From, edge.To, false)
		}
		g := graphOf(t, p)
		if g.Chordal() {
			chordal++
		} else {
			others++
		}
		if got := g.Chordal(); got != takenFreely(g) {
			t.Fatalf("%v: Chordal: %v", p.Edges(), got)
		}
	}
	if chordal < 20 || others < 20 {
		t.Errorf("%d are chordal, %d are not", chordal, others)
	}
}

// TestGreatestOrders: as many points as may be.
func TestGreatestOrders(t *testing.T) {
	source := rand.New(rand.NewSource(358))
	p := bare(api.MaxVars)
	for range api.MaxVars + 100 {
		a, b := source.Intn(len(p)), source.Intn(len(p))
		p.Set(a, b, a != b)
	}
	checkTaken(t, p, source.Perm(len(p)))
}
