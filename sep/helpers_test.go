package sep_test

import (
	"slices"
	"testing"

	"credence/api"
	"credence/samples"
	"credence/sep"
)

// Short names for what samples makes.
var (
	list    = samples.List
	hung    = samples.Hung
	drawn   = samples.DrawnParents
	numbers = samples.Numbers
	small   = samples.SmallDags
	hangs   = samples.Hangs
	some    = samples.DrawnNumbers
	choices = samples.Choices
)

// p are the chapter's points.
func p() [][]int { return hung("| 0 | 0 | 1 2 | 3") }

// The judges: what should be told, by the words of the chapter and nothing
// better. They take their time, so that few points are judged.

// beside is whether one of two points is a parent of the other.
func beside(parents [][]int, a, b int) bool {
	return slices.Contains(parents[a], b) || slices.Contains(parents[b], a)
}

// isTrail is whether a list is a trail.
func isTrail(parents [][]int, l []int) bool {
	for i, point := range l {
		if slices.Contains(l[:i], point) || i > 0 && !beside(parents, l[i-1], point) {
			return false
		}
	}
	return len(l) > 0
}

// isOpen is whether a trail is open.
func isOpen(parents [][]int, trail, given []int) bool {
	for i, point := range trail {
		ends := i == 0 || i == len(trail)-1
		if !ends && slices.Contains(parents[point], trail[i-1]) && slices.Contains(parents[point], trail[i+1]) {
			if !slices.ContainsFunc(given, func(x int) bool { return hangs(parents, x, point) }) {
				return false
			}
		} else if slices.Contains(given, point) {
			return false
		}
	}
	return true
}

// firstTrail is the trail that Trail should tell: all are tried, the shorter
// ones first, those of one length in order.
func firstTrail(parents [][]int, a, b int, given []int) []int {
	for length := 1; length <= len(parents); length++ {
		if trail := grown(parents, []int{a}, b, length, given); trail != nil {
			return trail
		}
	}
	return nil
}

// grown is the first open trail of some length that goes on from a trail, and
// ends with a point.
func grown(parents [][]int, trail []int, end, length int, given []int) []int {
	if len(trail) == length {
		if trail[length-1] == end && isOpen(parents, trail, given) {
			return trail
		}
		return nil
	}
	for point := range parents {
		if longer := append(slices.Clip(trail), point); isTrail(parents, longer) {
			if found := grown(parents, longer, end, length, given); found != nil {
				return found
			}
		}
	}
	return nil
}

// told are the points, rising, of which one of some tells something.
func told(parents [][]int, points, given []int) []int {
	var out []int
	for b := range parents {
		if slices.ContainsFunc(points, func(a int) bool { return firstTrail(parents, a, b, given) != nil }) {
			out = append(out, b)
		}
	}
	return out
}

// nearest are the points that Blanket should tell.
func nearest(parents [][]int, a int) []int {
	var out []int
	for b := range parents {
		together := slices.ContainsFunc(parents, func(l []int) bool { return slices.Contains(l, a) && slices.Contains(l, b) })
		if a != b && (beside(parents, a, b) || together) {
			out = append(out, b)
		}
	}
	return out
}

// checkEach holds what is told of all points, one by one, against the judges.
func checkEach(t *testing.T, parents [][]int, given []int) {
	t.Helper()
	for a := range parents {
		var reach []int
		for b := range parents {
			want := firstTrail(parents, a, b, given)
			if got, e := sep.Trail(parents, a, b, given); !slices.Equal(got, want) || e != api.OK {
				t.Fatalf("Trail(%v, %d, %d; %v): %v, %v, want %v", parents, a, b, given, got, e, want)
			}
			if got, e := sep.Apart(parents, []int{a}, []int{b}, given); got != (want == nil) || e != api.OK {
				t.Fatalf("Apart(%v, %d; %d; %v): %v, %v", parents, a, b, given, got, e)
			}
			if want != nil {
				reach = append(reach, b)
			}
		}
		if got, e := sep.Reach(parents, []int{a}, given); !slices.Equal(got, reach) || e != api.OK {
			t.Fatalf("Reach(%v, %d; %v): %v, %v, want %v", parents, a, given, got, e, reach)
		}
	}
}

// checkLists holds Reach and Apart of some points each against the judges.
func checkLists(t *testing.T, parents [][]int, a, b, given []int) {
	t.Helper()
	want := told(parents, a, given)
	if got, e := sep.Reach(parents, a, given); !slices.Equal(got, want) || e != api.OK {
		t.Fatalf("Reach(%v, %v; %v): %v, %v, want %v", parents, a, given, got, e, want)
	}
	apart := !slices.ContainsFunc(want, func(x int) bool { return slices.Contains(b, x) })
	if got, e := sep.Apart(parents, a, b, given); got != apart || e != api.OK {
		t.Fatalf("Apart(%v, %v; %v; %v): %v, %v, want %v", parents, a, b, given, got, e, apart)
	}
}

// checkBlankets holds Blanket of all points against the judge.
func checkBlankets(t *testing.T, parents [][]int) {
	t.Helper()
	for a := range parents {
		if got, e := sep.Blanket(parents, a); !slices.Equal(got, nearest(parents, a)) || e != api.OK {
			t.Fatalf("Blanket(%v, %d): %v, %v, want %v", parents, a, got, e, nearest(parents, a))
		}
	}
}
