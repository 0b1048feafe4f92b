package graph

import "slices"

// Chordal says whether each ring of four or more has a short cut.
func (g *Graph) Chordal() bool {
	// Points are taken one by one, always one that has the most neighbours
	// among those taken ahead of it. Just if the graph is chordal, these are
	// each time neighbours of one another.
	var taken pointSet
	for range g.size {
		next := g.nearest(taken)
		if g.wanting(g.near[next].meet(taken)) > 0 {
			return false
		}
		taken = taken.with(next)
	}
	return true
}

// nearest is the point out of a set that has the most neighbours in it.
func (g *Graph) nearest(set pointSet) int {
	best, most := -1, -1
	for a := range g.size {
		if set.has(a) {
			continue
		}
		if count := g.near[a].meet(set).count(); count > most {
			best, most = a, count
		}
	}
	return best
}

// Pieces are the points, by what hangs together.
func (g *Graph) Pieces() [][]int {
	var pieces [][]int
	var seen pointSet
	for a := range g.size {
		if seen.has(a) {
			continue
		}
		piece := g.piece(a)
		seen = seen.join(piece)
		pieces = append(pieces, slices.Collect(piece.each()))
	}
	return pieces
}

// piece has a point and all that hang together with it.
func (g *Graph) piece(a int) pointSet {
	var piece pointSet
	piece = piece.with(a)
	for work := []int{a}; len(work) > 0; work = work[1:] {
		next := g.near[work[0]].minus(piece)
		piece = piece.join(next)
		work = slices.AppendSeq(work, next.each())
	}
	return piece
}
