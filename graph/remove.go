package graph

import (
	"slices"

	"credence/api"
)

// Fill is how many edges are wanting among a point's neighbours.
func (g *Graph) Fill(a int) int { return g.wanting(g.near[a]) }

// wanting is how many pairs of a set have no edge between them.
func (g *Graph) wanting(set pointSet) int {
	count := 0
	for a := range set.each() {
		// No point is its own neighbour, so that it is counted too.
		count += set.minus(g.near[a]).count() - 1
	}
	return count / 2
}

// joinAll puts an edge between each two of a set that have none, and tells
// these edges, in order.
func (g *Graph) joinAll(set pointSet) []api.Edge {
	var put []api.Edge
	for a := range set.each() {
		others := set.without(a)
		for b := range others.minus(g.near[a]).each() {
			if a < b {
				put = append(put, api.Edge{From: a, To: b})
			}
		}
		g.near[a] = g.near[a].join(others)
	}
	return put
}

// Remove takes a point out: its neighbours are joined; the clique, and the edges that were put in.
func (g *Graph) Remove(a int) ([]int, []api.Edge) {
	if !g.isPoint(a) {
		return nil, nil
	}
	near := g.near[a]
	put := g.joinAll(near)
	for b := range near.each() {
		g.near[b] = g.near[b].without(a)
	}
	delete(g.near, a)
	return slices.Collect(near.with(a).each()), put
}
