package samples

import (
	"iter"
	"slices"
	"strings"
)

// Hung are parents as a text tells them: those of each point in turn, with bars
// in between.
func Hung(text string) [][]int {
	var parents [][]int
	for part := range strings.SplitSeq(text, "|") {
		parents = append(parents, List(part))
	}
	return parents
}

// SmallParents goes over all ways in which up to most points can hang on one
// another; each point's parents rise or fall, by turns.
func SmallParents(most int) iter.Seq[[][]int] {
	return func(yield func([][]int) bool) {
		for count := range most + 1 {
			for bits := range 1 << (count * count) {
				if !yield(unfolded(count, bits)) {
					return
				}
			}
		}
	}
}

// unfolded are the parents that bits tell, one for each point and parent.
func unfolded(count, bits int) [][]int {
	parents := make([][]int, count)
	for point := range parents {
		for parent := range count {
			if bits>>(point*count+parent)&1 == 1 {
				parents[point] = append(parents[point], parent)
			}
		}
		if (point+bits)%2 == 1 {
			slices.Reverse(parents[point])
		}
	}
	return parents
}

// SmallDags goes over those of SmallParents in which nothing leads back.
func SmallDags(most int) iter.Seq[[][]int] {
	return func(yield func([][]int) bool) {
		for parents := range SmallParents(most) {
			if !leadsBack(parents) && !yield(parents) {
				return
			}
		}
	}
}

// leadsBack is whether some points can't be taken out one by one, each behind
// its parents.
func leadsBack(parents [][]int) bool {
	var out []int
	for range parents {
		for point, list := range parents {
			stays := slices.ContainsFunc(list, func(parent int) bool { return !slices.Contains(out, parent) })
			if !stays && !slices.Contains(out, point) {
				out = append(out, point)
			}
		}
	}
	return len(out) < len(parents)
}

// Hangs is whether a point is another one or hangs on it, by way of others too.
// Nothing may lead back. It takes its time, so that few points are judged by it.
func Hangs(parents [][]int, point, on int) bool {
	return point == on || slices.ContainsFunc(parents[point], func(parent int) bool { return Hangs(parents, parent, on) })
}

// Source is where numbers without any order come from: a test's *rand.Rand.
type Source interface {
	Intn(n int) int
	Perm(n int) []int
}

// DrawnParents are parents without any order: each point has about so many.
// Where nothing may lead back, points hang on such as stand ahead of them in
// some order that is not told.
func DrawnParents(source Source, count, many int, back bool) [][]int {
	parents := make([][]int, count)
	names := source.Perm(count)
	for i, point := range names {
		for j, parent := range names {
			if (back || j < i) && source.Intn(count) < many {
				parents[point] = append(parents[point], parent)
			}
		}
	}
	return parents
}

// RowOfParents are points each of which hangs on the next one, but for the last.
func RowOfParents(count int) [][]int {
	parents := make([][]int, count)
	for point := range count - 1 {
		parents[point] = []int{point + 1}
	}
	return parents
}

// FullParents are points each of which hangs on all that come ahead of it.
func FullParents(count int) [][]int {
	parents := make([][]int, count)
	for point := range parents {
		parents[point] = Numbers(point)
	}
	return parents
}
