package samples

import (
	"iter"
	"strings"

	"credence/api"
)

// Plain is a graph as a square that says of each two points whether there is an
// edge: another way to hold one than the program's. What it tells it finds by
// looking through all of it.
type Plain [][]bool

// BareGraph is a graph without edges.
func BareGraph(count int) Plain {
	p := make(Plain, count)
	for i := range p {
		p[i] = make([]bool, count)
	}
	return p
}

// PlainGraph is a graph with some edges.
func PlainGraph(count int, edges []api.Edge) Plain {
	p := BareGraph(count)
	for _, edge := range edges {
		p.Set(edge.From, edge.To, true)
	}
	return p
}

// Clone is the same graph in memory of its own.
func (p Plain) Clone() Plain { return PlainGraph(len(p), p.Edges()) }

// Set puts an edge in or takes it away.
func (p Plain) Set(a, b int, has bool) { p[a][b], p[b][a] = has, has }

// Near are a point's neighbours, rising; none, if it is no point.
func (p Plain) Near(a int) []int {
	var out []int
	for b := range p {
		if a >= 0 && a < len(p) && p[a][b] {
			out = append(out, b)
		}
	}
	return out
}

// Edges are all edges, in order.
func (p Plain) Edges() []api.Edge {
	var out []api.Edge
	for a := range p {
		for b := a + 1; b < len(p); b++ {
			if p[a][b] {
				out = append(out, api.Edge{From: a, To: b})
			}
		}
	}
	return out
}

// Wanting are the pairs of a point's neighbours that have no edge, in order.
func (p Plain) Wanting(a int) []api.Edge {
	var out []api.Edge
	near := p.Near(a)
	for i, b := range near {
		for _, c := range near[i+1:] {
			if !p[b][c] {
				out = append(out, api.Edge{From: b, To: c})
			}
		}
	}
	return out
}

// Remove takes a point out: its neighbours are joined, and its edges are taken
// away.
func (p Plain) Remove(a int) {
	for _, edge := range p.Wanting(a) {
		p.Set(edge.From, edge.To, true)
	}
	for _, b := range p.Near(a) {
		p.Set(a, b, false)
	}
}

// Edges are edges as the chapters' examples write them.
func Edges(text string) []api.Edge {
	var out []api.Edge
	for word := range strings.FieldsSeq(text) {
		ends := List(strings.ReplaceAll(word, "-", " "))
		out = append(out, api.Edge{From: ends[0], To: ends[1]})
	}
	return out
}

// SmallGraphs goes over all graphs of up to most points.
func SmallGraphs(most int) iter.Seq[Plain] {
	return func(yield func(Plain) bool) {
		for count := range most + 1 {
			for bits := range 1 << (count * (count - 1) / 2) {
				if !yield(UnfoldedGraph(count, bits)) {
					return
				}
			}
		}
	}
}

// UnfoldedGraph is the graph that bits tell, one for each two points.
func UnfoldedGraph(count, bits int) Plain {
	p := BareGraph(count)
	for a := range p {
		for b := range a {
			p.Set(a, b, bits&1 == 1)
			bits >>= 1
		}
	}
	return p
}

// DrawnGraph is a graph without any order: of a hundred pairs about so many have
// an edge.
func DrawnGraph(source Source, count, percent int) Plain {
	p := BareGraph(count)
	for a := range p {
		for b := range a {
			p.Set(a, b, source.Intn(100) < percent)
		}
	}
	return p
}
