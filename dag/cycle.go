package dag

import "credence/api"

// Cycle is a way that leads back, if there is one.
func Cycle(parents [][]int) []int {
	if Check(parents) != api.ErrCycle {
		return nil
	}
	var best []int
	most := len(parents)
	r := restOf(parents)
	r.drain()
	for point := range parents {
		if r.out[point] {
			continue
		}
		if way := r.back(point, most); way != nil {
			// A way that begins at a greater point must be shorter than this one.
			best, most = way, len(way)-1
		}
		// With it go all that now are on no way that leads back.
		r.take(point)
		r.drain()
	}
	return best
}

// back is the shortest way from a point back to it by points that are not out,
// of several the first one; none, if it has more than most points.
func (r *rest) back(goal, most int) []int {
	steps, length := r.steps(goal, most)
	if length == 0 {
		return nil
	}
	way := []int{goal}
	for left := length - 1; left > 0; left-- {
		way = append(way, leastAt(left, r.parents[way[len(way)-1]], steps))
	}
	return way
}

// steps are the fewest steps, each to a parent, that lead to the goal from the
// points that are not out, as far as the shortest way back goes; and how many
// points that one has, 0 if there is none of at most so many.
func (r *rest) steps(goal, most int) (map[int]int, int) {
	steps := map[int]int{goal: 0}
	for work := []int{goal}; len(work) > 0; work = work[1:] {
		far := steps[work[0]]
		if far >= most {
			break
		}
		for _, child := range r.children[work[0]] {
			if child == goal {
				return steps, far + 1
			}
			if _, seen := steps[child]; !seen && !r.out[child] {
				steps[child] = far + 1
				work = append(work, child)
			}
		}
	}
	return nil, 0
}

// leastAt is the least point of a list from which so many steps are left.
func leastAt(left int, list []int, steps map[int]int) int {
	least := -1
	for _, point := range list {
		if far, seen := steps[point]; seen && far == left && (least < 0 || point < least) {
			least = point
		}
	}
	return least
}
