package dag

import (
	"container/heap"
	"sort"
)

// rest is what is left of the points while they are taken out one by one.
type rest struct {
	parents, children [][]int

	out   []bool
	waits []int // how many of each point's parents are not out yet
	ready line  // the points that are not out, and wait for none
}

// restOf has all points left. The parents are points, none twice.
func restOf(parents [][]int) *rest {
	r := &rest{
		parents:  parents,
		children: turned(parents),
		out:      make([]bool, len(parents)),
		waits:    make([]int, len(parents)),
	}
	for point, list := range parents {
		r.waits[point] = len(list)
		if len(list) == 0 {
			heap.Push(&r.ready, point)
		}
	}
	return r
}

// take takes a point out.
func (r *rest) take(point int) {
	r.out[point] = true
	for _, child := range r.children[point] {
		r.waits[child]--
		// A point that was taken ahead of its parents has been out since.
		if r.waits[child] == 0 && !r.out[child] {
			heap.Push(&r.ready, child)
		}
	}
}

// drain takes out, one by one, the least point that waits for none, while there
// is one, and tells them in this order.
func (r *rest) drain() []int {
	var taken []int
	for r.ready.Len() > 0 {
		// The least one stands first in a heap.
		point := r.ready.IntSlice[0]
		heap.Pop(&r.ready)
		r.take(point)
		taken = append(taken, point)
	}
	return taken
}

// line are points as package heap wants them.
type line struct{ sort.IntSlice }

// Push puts a point behind the others.
func (l *line) Push(point any) { l.IntSlice = append(l.IntSlice, point.(int)) }

// Pop takes the point away that stands behind the others.
func (l *line) Pop() any {
	last := len(l.IntSlice) - 1
	point := l.IntSlice[last]
	l.IntSlice = l.IntSlice[:last]
	return point
}
