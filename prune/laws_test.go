package prune_test

import (
	"math/rand"
	"slices"
	"testing"

	"credence/api"
	"credence/prune"
)

// 17.3: what follows, of the points alone.

// checkLaws: a parent that is not given of a point that is kept is kept, with
// apart nothing is kept that is barren, and all that is asked, and is not given,
// is kept.
func checkLaws(t *testing.T, parents [][]int, asked, given []int) {
	t.Helper()
	barren, e := prune.Barren(parents, asked, given)
	if e != api.OK {
		t.Fatalf("Barren(%v, %v; given %v): %v", parents, asked, given, e)
	}
	for _, w := range eachWay() {
		points := kept(t, parents, asked, given, w)
		wants := func(point int) bool { return !slices.Contains(given, point) && !slices.Contains(points, point) }
		if slices.ContainsFunc(asked, wants) {
			t.Fatalf("Kept(%v, %v; given %v; %v): %v: not all that is asked", parents, asked, given, w, points)
		}
		for _, point := range points {
			if slices.ContainsFunc(parents[point], wants) {
				t.Fatalf("Kept(%v, %v; given %v; %v): %v: not all parents of %d", parents, asked, given, w, points, point)
			}
			if (w.apart || w.barren) && slices.Contains(barren, point) {
				t.Fatalf("Kept(%v, %v; given %v; %v): %v: %d is barren", parents, asked, given, w, points, point)
			}
		}
	}
	if one, other := kept(t, parents, asked, given, ways{apart: true}), kept(t, parents, asked, given, ways{true, true}); !slices.Equal(one, other) {
		t.Fatalf("Kept(%v, %v; given %v): apart %v, both %v", parents, asked, given, one, other)
	}
}

// TestSmallLaws: all parents of up to three points, all that can be asked and
// given.
func TestSmallLaws(t *testing.T) {
	for parents := range small(3) {
		for _, asked := range choices(len(parents)) {
			for _, given := range choices(len(parents)) {
				checkLaws(t, parents, asked, given)
			}
		}
	}
}

// TestDrawnLaws: more points.
func TestDrawnLaws(t *testing.T) {
	source := rand.New(rand.NewSource(173))
	for i := range 3000 {
		parents := drawn(source, 3+i%80, 1+i%4, false)
		checkLaws(t, parents, some(source, len(parents), 1+i%20), some(source, len(parents), i%70))
	}
}

// TestGreatestLaws: as many points as a network may have.
func TestGreatestLaws(t *testing.T) {
	source := rand.New(rand.NewSource(273))
	for i := range 8 {
		parents := drawn(source, api.MaxVars, 1+i%4, false)
		for _, percent := range []int{0, 1, 10, 50} {
			checkLaws(t, parents, some(source, len(parents), 1), some(source, len(parents), percent))
		}
	}
}
