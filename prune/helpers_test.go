package prune_test

import (
	"iter"
	"slices"
	"testing"

	"credence/api"
	"credence/prune"
	"credence/samples"
	"credence/sep"
)

// Short names for what samples makes.
var (
	list    = samples.List
	hung    = samples.Hung
	small   = samples.SmallDags
	drawn   = samples.DrawnParents
	numbers = samples.Numbers
	some    = samples.DrawnNumbers
	choices = samples.Choices
	hangs   = samples.Hangs
)

// p are the chapter's points.
func p() [][]int { return hung("| 0 | 1 | 1 | 3") }

// ways are the two ways of leaving out, each set or not.
type ways struct{ barren, apart bool }

// eachWay are all that can be set.
func eachWay() []ways { return []ways{{}, {barren: true}, {apart: true}, {true, true}} }

// waysOf are ways as the chapter's examples write them.
func waysOf(text string) ways {
	switch text {
	case "neither":
		return ways{}
	case "barren":
		return ways{barren: true}
	case "apart":
		return ways{apart: true}
	}
	return ways{true, true}
}

// roles goes over all ways in which each point can be asked, given, or neither.
func roles(count int) iter.Seq2[[]int, []int] {
	return func(yield func(asked, given []int) bool) {
		for l := range samples.ListsOf(numbers(3), count) {
			var in [3][]int
			for point, role := range l {
				in[role] = append(in[role], point)
			}
			if len(l) == count && !yield(in[0], in[1]) {
				return
			}
		}
	}
}

// kept is Kept, which must go well.
func kept(t *testing.T, parents [][]int, asked, given []int, w ways) []int {
	t.Helper()
	got, e := prune.Kept(parents, asked, given, w.barren, w.apart)
	if e != api.OK {
		t.Fatalf("Kept(%v, %v; given %v; %v): %v", parents, asked, given, w, e)
	}
	return got
}

// The judges: what should be told, by the words of the chapter and nothing
// better.

// isBarren is whether neither asked nor given has a point that hangs on one.
func isBarren(parents [][]int, point int, asked, given []int) bool {
	named := slices.Concat(asked, given)
	return !slices.ContainsFunc(named, func(x int) bool { return hangs(parents, x, point) })
}

// isMute is whether a point's table tells nothing: a new point is put above it.
func isMute(t *testing.T, parents [][]int, point int, asked, given []int) bool {
	t.Helper()
	wider := append(slices.Clip(parents), nil)
	wider[point] = append([]int{len(parents)}, parents[point]...)
	apart, e := sep.Apart(wider, []int{len(parents)}, asked, given)
	if e != api.OK {
		t.Fatalf("Apart(%v, %d; %v; %v): %v", wider, len(parents), asked, given, e)
	}
	return apart
}

// checkJudged holds what is told of some questions against the judges.
func checkJudged(t *testing.T, parents [][]int, asked, given []int) {
	t.Helper()
	var barren []int
	var left [4][]int
	for point := range parents {
		idle, mute := isBarren(parents, point, asked, given), isMute(t, parents, point, asked, given)
		if idle {
			barren = append(barren, point)
		}
		for i, w := range eachWay() {
			if !(w.barren && idle) && !(w.apart && mute) {
				left[i] = append(left[i], point)
			}
		}
	}
	if got, e := prune.Barren(parents, asked, given); !slices.Equal(got, barren) || e != api.OK {
		t.Fatalf("Barren(%v, %v; given %v): %v, %v, want %v", parents, asked, given, got, e, barren)
	}
	for i, w := range eachWay() {
		if got := kept(t, parents, asked, given, w); !slices.Equal(got, left[i]) {
			t.Fatalf("Kept(%v, %v; given %v; %v): %v, want %v", parents, asked, given, w, got, left[i])
		}
	}
}
