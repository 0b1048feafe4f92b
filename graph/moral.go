package graph

import (
	"credence/api"
	"credence/dag"
)

// Moral is the graph of a network: each point with its parents, the parents with each other.
func Moral(parents [][]int) (*Graph, api.Errno) {
	if len(parents) > api.MaxVars {
		return nil, api.ErrRange
	}
	if code := dag.Check(parents); code != api.OK {
		return nil, code
	}
	g := bare(len(parents))
	for point, list := range parents {
		g.joinAll(g.setOf(list).with(point))
	}
	return g, api.OK
}
