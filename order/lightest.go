package order

import (
	"slices"

	"credence/api"
	"credence/graph"
)

// weigher tells what a point weighs in what is left of a graph: 0 or more. It
// looks at the point's neighbours and at the edges among these, at nothing else.
type weigher func(rest *graph.Graph, point int) int

// lightestFirst are some points in the order in which they are taken out of a
// graph: each time the one of those left that weighs least then, of equal ones
// the least number.
func lightestFirst(g *graph.Graph, points []int, weigh weigher) ([]int, api.Errno) {
	if code := checkPoints(g, points); code != api.OK {
		return nil, code
	}
	s := scale{rest: clone(g), weigh: weigh, weights: slices.Repeat([]int{unknown}, g.Len())}
	left := rising(points)
	order := make([]int, len(left))
	for i := range order {
		at := s.lightest(left)
		order[i] = left[at]
		left = slices.Delete(left, at, at+1)
		s.takeOut(order[i])
	}
	return order, api.OK
}

// unknown stands in the place of a weight that must be found anew.
const unknown = -1

// scale weighs the points of a graph while some are taken out. It keeps what
// they weigh: most points are far from the one that is taken out.
type scale struct {
	rest    *graph.Graph
	weigh   weigher
	weights []int
}

// lightest is the place of the first point of a list that weighs least.
func (s scale) lightest(list []int) int {
	best, least := 0, s.weight(list[0])
	for at, point := range list {
		if least == 0 {
			// Nothing weighs less, so that the rest need not be weighed.
			break
		}
		if weight := s.weight(point); weight < least {
			best, least = at, weight
		}
	}
	return best
}

// weight is what a point weighs now.
func (s scale) weight(point int) int {
	if s.weights[point] == unknown {
		s.weights[point] = s.weigh(s.rest, point)
	}
	return s.weights[point]
}

// takeOut takes a point out, and forgets what may weigh something else then:
// its neighbours; and, if edges were put in among these, their neighbours.
func (s scale) takeOut(point int) {
	clique, put := s.rest.Remove(point)
	for _, near := range clique {
		s.weights[near] = unknown
		if len(put) == 0 {
			continue
		}
		for _, far := range s.rest.Near(near) {
			s.weights[far] = unknown
		}
	}
}
