package graph_test

import (
	"iter"
	"math"
	"math/rand"
	"slices"
	"strings"
	"testing"

	"credence/api"
	"credence/graph"
	"credence/samples"
)

// Short names for what samples makes.
var (
	list    = samples.List
	hung    = samples.Hung
	numbers = samples.Numbers
	alike   = samples.SameLists
)

// edges are edges as the chapter's examples write them.
func edges(text string) []api.Edge {
	var out []api.Edge
	for word := range strings.FieldsSeq(text) {
		ends := list(strings.ReplaceAll(word, "-", " "))
		out = append(out, api.Edge{From: ends[0], To: ends[1]})
	}
	return out
}

// made is a graph of some length with some edges.
func made(t *testing.T, count int, some []api.Edge) *graph.Graph {
	t.Helper()
	g, e := graph.New(count)
	if e != api.OK || g == nil {
		t.Fatalf("New(%d): %v, %v", count, g, e)
	}
	for _, edge := range some {
		if !g.Join(edge.From, edge.To) {
			t.Fatalf("Join(%v) says no", edge)
		}
	}
	return g
}

// ring is the chapter's graph.
func ring(t *testing.T) *graph.Graph {
	t.Helper()
	return made(t, 5, edges("0-1 1-2 2-3 0-3"))
}

// told are the edges that a graph goes over.
func told(g *graph.Graph) []api.Edge { return slices.Collect(g.Edges()) }

// The judges: what should be told, by the words of the chapter and nothing
// better.

// plain is a graph as a square that says of each two points whether there is an
// edge.
type plain [][]bool

// bare is a plain graph without edges.
func bare(count int) plain {
	p := make(plain, count)
	for i := range p {
		p[i] = make([]bool, count)
	}
	return p
}

// clone is the same graph in memory of its own.
func (p plain) clone() plain {
	out := make(plain, len(p))
	for i := range p {
		out[i] = slices.Clone(p[i])
	}
	return out
}

// set puts an edge in or takes it away.
func (p plain) set(a, b int, has bool) { p[a][b], p[b][a] = has, has }

// in is whether a number is a point.
func (p plain) in(a int) bool { return a >= 0 && a < len(p) }

// has is whether there is an edge.
func (p plain) has(a, b int) bool { return p.in(a) && p.in(b) && p[a][b] }

// near are the neighbours, rising.
func (p plain) near(a int) []int {
	var out []int
	for b := range p {
		if p.has(a, b) {
			out = append(out, b)
		}
	}
	return out
}

// edges are all edges, in order.
func (p plain) edges() []api.Edge {
	var out []api.Edge
	for a := range p {
		for b := a + 1; b < len(p); b++ {
			if p[a][b] {
				out = append(out, api.Edge{From: a, To: b})
			}
		}
	}
	return out
}

// wanting are the pairs of neighbours that have no edge, in order.
func (p plain) wanting(a int) []api.Edge {
	var out []api.Edge
	near := p.near(a)
	for i, b := range near {
		for _, c := range near[i+1:] {
			if !p[b][c] {
				out = append(out, api.Edge{From: b, To: c})
			}
		}
	}
	return out
}

// remove takes a point out, as 15.5 says.
func (p plain) remove(a int) {
	for _, edge := range p.wanting(a) {
		p.set(edge.From, edge.To, true)
	}
	for _, b := range p.near(a) {
		p.set(a, b, false)
	}
}

// among is the graph of some points alone.
func (p plain) among(points []int) plain {
	out := p.clone()
	for a := range p {
		for b := range p {
			out[a][b] = p[a][b] && slices.Contains(points, a) && slices.Contains(points, b)
		}
	}
	return out
}

// pieces are the points that hang together: each begins as a piece by itself,
// and pieces with an edge between them become one.
func (p plain) pieces() [][]int {
	least := numbers(len(p))
	for range p {
		for _, edge := range p.edges() {
			low := min(least[edge.From], least[edge.To])
			least[edge.From], least[edge.To] = low, low
		}
	}
	var out [][]int
	for a := range p {
		var piece []int
		for b := range p {
			if least[b] == a {
				piece = append(piece, b)
			}
		}
		if piece != nil {
			out = append(out, piece)
		}
	}
	return out
}

// chordal is whether each ring of four or more has a short cut: all rings are
// tried.
func (p plain) chordal() bool {
	for a := range p {
		if !p.cutFrom([]int{a}) {
			return false
		}
	}
	return true
}

// cutFrom is whether all rings that a way goes on to have a short cut, which
// begin at their least point.
func (p plain) cutFrom(way []int) bool {
	if len(way) >= 4 && p.has(way[len(way)-1], way[0]) && !p.shortCut(way) {
		return false
	}
	for next := way[0] + 1; next < len(p); next++ {
		if p.has(way[len(way)-1], next) && !slices.Contains(way, next) && !p.cutFrom(append(slices.Clip(way), next)) {
			return false
		}
	}
	return true
}

// shortCut is whether two points of a ring that do not follow on one another in
// it are neighbours.
func (p plain) shortCut(ring []int) bool {
	for i, a := range ring {
		for j, b := range ring {
			apart := (j - i + len(ring)) % len(ring)
			if apart != 1 && apart != len(ring)-1 && p.has(a, b) {
				return true
			}
		}
	}
	return false
}

// graph is the graph of the program that should be the same: the edges are put
// in from the last one to the first, each second one the other way round.
func (p plain) graph(t *testing.T) *graph.Graph {
	t.Helper()
	all := p.edges()
	slices.Reverse(all)
	for i := 0; i < len(all); i += 2 {
		all[i].From, all[i].To = all[i].To, all[i].From
	}
	return made(t, len(p), all)
}

// strangers are numbers that are no points of a graph of some length, beside
// its ends and far away.
func strangers(count int) []int {
	return []int{-1, -2, -64, -1024, count, count + 1, count + 63, count + 64, 1024 + count, 1 << 31, 1 << 32, 1<<32 + 1, math.MinInt32, math.MinInt, math.MaxInt}
}

// checkSame holds all that a graph tells, but for Chordal, against the judges.
func checkSame(t *testing.T, g *graph.Graph, p plain) {
	t.Helper()
	if g == nil || g.Len() != len(p) {
		t.Fatalf("%v instead of %d points", g, len(p))
	}
	if got := told(g); !slices.Equal(got, p.edges()) {
		t.Fatalf("the edges are %v, want %v", got, p.edges())
	}
	for a := range p {
		if got := g.Near(a); !slices.Equal(got, p.near(a)) {
			t.Fatalf("%v: Near(%d): %v, want %v", p.edges(), a, got, p.near(a))
		}
		if got := g.Fill(a); got != len(p.wanting(a)) {
			t.Fatalf("%v: Fill(%d): %d, want %v", p.edges(), a, got, p.wanting(a))
		}
		for b := range p {
			if got := g.Has(a, b); got != p[a][b] {
				t.Fatalf("%v: Has(%d, %d): %v", p.edges(), a, b, got)
			}
		}
	}
	if got := g.Pieces(); !alike(got, p.pieces()) {
		t.Fatalf("%v: Pieces: %v, want %v", p.edges(), got, p.pieces())
	}
}

// small goes over all graphs of up to most points.
func small(most int) iter.Seq[plain] {
	return func(yield func(plain) bool) {
		for count := range most + 1 {
			for bits := range 1 << (count * (count - 1) / 2) {
				if !yield(unfolded(count, bits)) {
					return
				}
			}
		}
	}
}

// unfolded is the graph that bits tell, one for each two points.
func unfolded(count, bits int) plain {
	p := bare(count)
	for a := range p {
		for b := range a {
			p.set(a, b, bits&1 == 1)
			bits >>= 1
		}
	}
	return p
}

// drawn is a graph without any order, the same at each run: of a hundred pairs
// about so many have an edge.
func drawn(source *rand.Rand, count, percent int) plain {
	p := bare(count)
	for a := range p {
		for b := range a {
			p.set(a, b, source.Intn(100) < percent)
		}
	}
	return p
}
