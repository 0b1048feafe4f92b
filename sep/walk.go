package sep

import (
	"cmp"
	"slices"

	"credence/api"
	"credence/dag"
	"credence/set"
)

// step is a point of a trail and how it was come to.
type step struct {
	point int
	down  bool // from a parent; else from a child
}

// walk is all to which open trails lead from where they begin.
type walk struct {
	given set.Set[int]
	// reached has the step ahead of each one; one that is begun with stands
	// ahead of itself.
	reached map[step]step
	// order has the steps as they were reached: those of shorter trails first;
	// of trails as long as each other that begin with one point, those of the
	// lesser one.
	order []step
}

// walkFrom goes from some points on as far as trails are open.
//
// A point may be passed twice, which is no trail; but what lies between can be
// left out, and the rest is open too: if the point is a meeting then, it was one
// before, or the way went down from it, to a meeting that is open. So whatever
// is reached is reached by a trail, and what is shortest is one.
func walkFrom(parents [][]int, a, given []int) (*walk, api.Errno) {
	next, code := nextSteps(parents, given)
	if code != api.OK {
		return nil, code
	}
	if !arePoints(parents, a...) {
		return nil, api.ErrRange
	}
	w := &walk{given: set.Of(given...), reached: map[step]step{}}
	for _, point := range a {
		// What it begins with is never a meeting, just as what was come to from
		// a child: if it is given, nothing follows on it.
		first := step{point: point}
		w.reach(first, first)
	}
	for at := 0; at < len(w.order); at++ {
		for _, s := range next(w.order[at]) {
			w.reach(s, w.order[at])
		}
	}
	return w, api.OK
}

// nextSteps makes what tells the steps that may follow on one, by rising points.
func nextSteps(parents [][]int, given []int) (func(step) []step, api.Errno) {
	children, code := dag.Children(parents)
	if code != api.OK {
		return nil, code
	}
	above, code := dag.Above(parents, given...)
	if code != api.OK {
		return nil, code
	}
	known, open := set.Of(given...), set.Of(above...)
	return func(s step) []step {
		var next []step
		barred := known.Has(s.point)
		if !barred {
			next = withSteps(next, children[s.point], true)
		}
		// From parent to parent it is a meeting.
		if s.down && open.Has(s.point) || !s.down && !barred {
			next = withSteps(next, parents[s.point], false)
		}
		slices.SortFunc(next, func(a, b step) int { return cmp.Compare(a.point, b.point) })
		return next
	}, api.OK
}

// withSteps are some steps, and behind them those to some points.
func withSteps(steps []step, points []int, down bool) []step {
	for _, point := range points {
		steps = append(steps, step{point, down})
	}
	return steps
}

// reach goes a step, if it was not gone before.
func (w *walk) reach(s, ahead step) {
	if _, before := w.reached[s]; !before {
		w.reached[s] = ahead
		w.order = append(w.order, s)
	}
}

// ends are the points with which open trails can end.
func (w *walk) ends() set.Set[int] {
	points := make([]int, 0, len(w.order))
	for _, s := range w.order {
		points = append(points, s.point)
	}
	return set.Of(points...).Minus(w.given)
}

// trailTo is the trail by which one of the ends was reached first.
func (w *walk) trailTo(end int) []int {
	s := w.order[slices.IndexFunc(w.order, func(s step) bool { return s.point == end })]
	trail := []int{s.point}
	for w.reached[s] != s {
		s = w.reached[s]
		trail = append(trail, s.point)
	}
	slices.Reverse(trail)
	return trail
}
