package factor_test

import (
	"math"
	"math/rand"
	"slices"
	"testing"

	"credence/api"
	"credence/factor"
	"credence/ring"
	"credence/samples"
)

// 13.6: Same.

// checkSame holds Same against what it should tell, either way round.
func checkSame[T any](t *testing.T, r ring.Ring[T], a, b api.Box[T], want bool) {
	t.Helper()
	if factor.Same(r, a, b) != want || factor.Same(r, b, a) != want {
		t.Fatalf("Same(%T; %v; %v): %v, %v", r, a, b, factor.Same(r, a, b), factor.Same(r, b, a))
	}
}

// TestExamplesOfSame: the chapter's rows.
func TestExamplesOfSame(t *testing.T) {
	a := table("0 / 2 / 1 2")
	checkSame(t, numbers, a, table("0 / 2 / 1 2"), true)
	checkSame(t, numbers, a, table("1 / 2 / 1 2"), false)
	checkSame(t, numbers, table("0 / 2 / 1"), table("0 / 2 / 1"), false)
}

// TestSameTables: of some tables that are all different each is the same as
// itself alone.
func TestSameTables(t *testing.T) {
	texts := []string{
		" / / 1", " / / 2", "0 / 1 / 1", "1 / 1 / 1", "0 / 2 / 1 2", "0 / 2 / 2 1", "0 / 2 / 1 1", "1 / 2 / 1 2", "0 1 / 1 2 / 1 2", "0 1 / 2 1 / 1 2", "0 2 / 2 1 / 1 2",
		"0 1 / 2 3 / 1 2 3 4 5 6", "0 1 / 3 2 / 1 2 3 4 5 6", "0 1 / 2 3 / 1 2 3 4 5 7", "0 1 / 2 3 / 0 2 3 4 5 6", "0 1 / 1 6 / 1 2 3 4 5 6", "0 / 6 / 1 2 3 4 5 6",
	}
	for i, one := range texts {
		for j, other := range texts {
			checkSame(t, numbers, table(one), table(other), i == j)
			checkSame[string](t, samples.Strokes{}, words(one), words(other), i == j)
		}
	}
}

// TestOtherCells: each cell counts.
func TestOtherCells(t *testing.T) {
	source := rand.New(rand.NewSource(137))
	for range 100 {
		a := drawn(source, 4, counted())
		checkSame(t, numbers, a, a, true)
		for i := range a.Cells {
			b := a
			b.Cells = slices.Clone(a.Cells)
			b.Cells[i] = 0
			checkSame(t, numbers, a, b, false)
		}
	}
}

// TestNotSame: without a ring nothing is, and a table that may not be is not
// the same as any.
func TestNotSame(t *testing.T) {
	fine := table("0 / 2 / 1 2")
	if factor.Same(nil, fine, fine) {
		t.Error("without a ring")
	}
	for first := range wrong() {
		checkSame(t, numbers, table(first), fine, false)
		checkSame(t, nil, table(first), fine, false)
		for second := range wrong() {
			checkSame(t, numbers, table(first), table(second), false)
		}
	}
}

// TestSameByTheRing: the ring says which cells are the same.
func TestSameByTheRing(t *testing.T) {
	for _, clock := range []*samples.Clock{nil, {Hours: 12}} {
		checkSame[int](t, clock, table("0 / 2 / 1 2"), table("0 / 2 / 13 26"), true)
		checkSame[int](t, clock, table("0 / 2 / 1 2"), table("0 / 2 / 13 27"), false)
	}
	checkSame(t, numbers, table("0 / 2 / 1 2"), table("0 / 2 / 13 26"), false)
	rats := func(cells ...api.Rat) api.Box[api.Rat] {
		return api.Box[api.Rat]{Scope: []int{0}, Sizes: []int{2}, Cells: cells}
	}
	for _, r := range []ring.Ring[api.Rat]{ring.Rats{}, ring.Most{}} {
		checkSame(t, r, rats(samples.Ratio(1, 2), api.Rat{}), rats(samples.Ratio(3, 6), samples.Ratio(0, 7)), true)
		checkSame(t, r, rats(samples.Ratio(1, 2), api.Rat{}), rats(samples.Ratio(-3, 6), samples.Ratio(0, 7)), false)
	}
	floats := func(cells ...float64) api.Box[float64] {
		return api.Box[float64]{Scope: []int{0}, Sizes: []int{2}, Cells: cells}
	}
	checkSame[float64](t, ring.Floats{}, floats(math.NaN(), 0), floats(math.NaN(), math.Copysign(0, -1)), true)
	checkSame[float64](t, ring.Floats{}, floats(math.NaN(), 0), floats(0, math.NaN()), false)
}

// TestSameOfNoLists: nil and no elements are the same.
func TestSameOfNoLists(t *testing.T) {
	checkSame(t, numbers, api.Box[int]{Cells: []int{1}}, api.Box[int]{Scope: []int{}, Sizes: []int{}, Cells: []int{1}}, true)
}
