package graph_test

import (
	"math"
	"slices"
	"testing"

	"credence/api"
	"credence/graph"
	"credence/samples"
)

// Short names for what samples makes.
type plain = samples.Plain

var (
	list     = samples.List
	hung     = samples.Hung
	numbers  = samples.Numbers
	alike    = samples.SameLists
	orders   = samples.Orders
	edges    = samples.Edges
	bare     = samples.BareGraph
	small    = samples.SmallGraphs
	unfolded = samples.UnfoldedGraph
	drawn    = samples.DrawnGraph
)

// made is a graph of some length with some edges.
func made(t *testing.T, count int, some []api.Edge) *graph.Graph {
	t.Helper()
	g, e := graph.New(count)
	if e != api.OK || g == nil {
		t.Fatalf("New(%d): %v, %v", count, g, e)
	}
	for _, edge := range some {
		if !g.Join(edge.From, edge.To) {
			t.Fatalf("Join(%v) says no", edge)
		}
	}
	return g
}

// ring is the chapter's graph.
func ring(t *testing.T) *graph.Graph {
	t.Helper()
	return made(t, 5, edges("0-1 1-2 2-3 0-3"))
}

// told are the edges that a graph goes over.
func told(g *graph.Graph) []api.Edge { return slices.Collect(g.Edges()) }

// The judges: what should be told, by the words of the chapter and nothing
// better, beside what plain graphs tell.

// among is the graph of some points alone.
func among(p plain, points []int) plain {
	out := p.Clone()
	for a := range p {
		for b := range p {
			out[a][b] = p[a][b] && slices.Contains(points, a) && slices.Contains(points, b)
		}
	}
	return out
}

// piecesOf are the points that hang together: each begins as a piece by itself,
// and pieces with an edge between them become one.
func piecesOf(p plain) [][]int {
	least := numbers(len(p))
	for range p {
		for _, edge := range p.Edges() {
			low := min(least[edge.From], least[edge.To])
			least[edge.From], least[edge.To] = low, low
		}
	}
	var out [][]int
	for a := range p {
		var piece []int
		for b := range p {
			if least[b] == a {
				piece = append(piece, b)
			}
		}
		if piece != nil {
			out = append(out, piece)
		}
	}
	return out
}

// isChordal is whether each ring of four or more has a short cut: all rings are
// tried.
func isChordal(p plain) bool {
	for a := range p {
		if !cutFrom(p, []int{a}) {
			return false
		}
	}
	return true
}

// cutFrom is whether all rings that a way goes on to have a short cut, which
// begin at their least point.
func cutFrom(p plain, way []int) bool {
	if len(way) >= 4 && p[way[len(way)-1]][way[0]] && !shortCut(p, way) {
		return false
	}
	for next := way[0] + 1; next < len(p); next++ {
		if p[way[len(way)-1]][next] && !slices.Contains(way, next) && !cutFrom(p, append(slices.Clip(way), next)) {
			return false
		}
	}
	return true
}

// shortCut is whether two points of a ring that do not follow on one another in
// it are neighbours.
func shortCut(p plain, ring []int) bool {
	for i, a := range ring {
		for j, b := range ring {
			apart := (j - i + len(ring)) % len(ring)
			if apart != 1 && apart != len(ring)-1 && p[a][b] {
				return true
			}
		}
	}
	return false
}

// graphOf is the graph of the program that should be the same: the edges are put
// in from the last one to the first, each second one the other way round.
func graphOf(t *testing.T, p plain) *graph.Graph {
	t.Helper()
	all := p.Edges()
	slices.Reverse(all)
	for i := 0; i < len(all); i += 2 {
		all[i].From, all[i].To = all[i].To, all[i].From
	}
	return made(t, len(p), all)
}

// strangers are numbers that are no points of a graph of some length, beside
// its ends and far away.
func strangers(count int) []int {
	return []int{-1, -2, -64, -1024, count, count + 1, count + 63, count + 64, 1024 + count, 1 << 31, 1 << 32, 1<<32 + 1, math.MinInt32, math.MinInt, math.MaxInt}
}

// checkSame holds all that a graph tells, but for Chordal, against the judges.
func checkSame(t *testing.T, g *graph.Graph, p plain) {
	t.Helper()
	if g == nil || g.Len() != len(p) {
		t.Fatalf("%v instead of %d points", g, len(p))
	}
	if got := told(g); !slices.Equal(got, p.Edges()) {
		t.Fatalf("the edges are %v, want %v", got, p.Edges())
	}
	for a := range p {
		if got := g.Near(a); !slices.Equal(got, p.Near(a)) {
			t.Fatalf("%v: Near(%d): %v, want %v", p.Edges(), a, got, p.Near(a))
		}
		if got := g.Fill(a); got != len(p.Wanting(a)) {
			t.Fatalf("%v: Fill(%d): %d, want %v", p.Edges(), a, got, p.Wanting(a))
		}
		for b := range p {
			if got := g.Has(a, b); got != p[a][b] {
				t.Fatalf("%v: Has(%d, %d): %v", p.Edges(), a, b, got)
			}
		}
	}
	if got := g.Pieces(); !alike(got, piecesOf(p)) {
		t.Fatalf("%v: Pieces: %v, want %v", p.Edges(), got, piecesOf(p))
	}
}
