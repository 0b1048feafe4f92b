package graph_test

import (
	"math/rand"
	"slices"
	"testing"

	"credence/api"
	"credence/dag"
	"credence/graph"
	"credence/samples"
)

// 15.3: Moral.

// asMoral is what Moral should tell of parents that may be.
func asMoral(parents [][]int) plain {
	p := bare(len(parents))
	for point, l := range parents {
		for i, a := range l {
			p.Set(point, a, true)
			for _, b := range l[:i] {
				p.Set(a, b, true)
			}
		}
	}
	return p
}

// checkMoral holds Moral against the judge, and dag.Check's errors.
func checkMoral(t *testing.T, parents [][]int) {
	t.Helper()
	g, e := graph.Moral(parents)
	if want := dag.Check(parents); e != want || (g == nil) != (e != api.OK) {
		t.Fatalf("Moral(%v): %v, %v, want %v", parents, g, e, want)
	}
	if e == api.OK {
		checkSame(t, g, asMoral(parents))
	}
}

// TestExamplesOfMoral: the chapter's rows.
func TestExamplesOfMoral(t *testing.T) {
	g, e := graph.Moral(hung("| | 0 1"))
	if e != api.OK || !slices.Equal(told(g), edges("0-1 0-2 1-2")) {
		t.Errorf("Moral: %v, %v", told(g), e)
	}
	if g, e := graph.Moral(hung("0")); g != nil || e != api.ErrCycle {
		t.Errorf("0 on 0: %v, %v", g, e)
	}
	if g, e := graph.Moral(hung("5")); g != nil || e != api.ErrRange {
		t.Errorf("0 on 5: %v, %v", g, e)
	}
}

func TestMoral(t *testing.T) {
	for _, c := range []struct{ text, want string }{
		{"", ""}, {"| |", ""}, {"1 |", "0-1"}, {"| 0 | 1 | 2", "0-1 1-2 2-3"}, {"3 1 | | | ", "0-1 0-3 1-3"},
		{"| 0 | 0 | 2 1", "0-1 0-2 1-2 1-3 2-3"}, {"| | | 2 0 1", "0-1 0-2 0-3 1-2 1-3 2-3"},
		// Grandparents, and parents of different points, are not joined.
		{"| 0 | 1 | 0", "0-1 0-3 1-2"}, {"| | 0 | 1", "0-2 1-3"},
	} {
		g, e := graph.Moral(hung(c.text))
		if e != api.OK || !slices.Equal(told(g), edges(c.want)) {
			t.Errorf("Moral(%s): %v, %v, want %s", c.text, told(g), e, c.want)
		}
		checkMoral(t, hung(c.text))
	}
	for _, none := range [][][]int{nil, {}} {
		if g, e := graph.Moral(none); e != api.OK || g.Len() != 0 {
			t.Errorf("Moral of none: %v, %v", g, e)
		}
	}
}

// TestWrongParents: dag.Check's errors, and no graph beside them.
func TestWrongParents(t *testing.T) {
	for text, want := range map[string]api.Errno{
		"1": api.ErrRange, "| -1": api.ErrRange, "| 0 0 | 3": api.ErrRange, "| 0 0": api.ErrTwice, "1 1 | 0": api.ErrTwice, "1 | 0": api.ErrCycle, "| 0 1": api.ErrCycle, "1 | 2 | 0": api.ErrCycle,
	} {
		if g, e := graph.Moral(hung(text)); g != nil || e != want {
			t.Errorf("Moral(%s): %v, %v, want %v", text, g, e, want)
		}
	}
}

// TestTooMany: more than 1024 points, whatever else is wrong with them.
func TestTooMany(t *testing.T) {
	for _, count := range []int{1025, 1026, 2048, 70000} {
		for _, first := range [][]int{nil, {0}, {1, 1}, {-1}, {1, 2}} {
			parents := make([][]int, count)
			parents[0] = first
			if g, e := graph.Moral(parents); g != nil || e != api.ErrRange {
				t.Errorf("%d points, the first on %v: %v, %v", count, first, g, e)
			}
		}
	}
	parents := make([][]int, 1024)
	parents[1023] = []int{0, 512}
	g, e := graph.Moral(parents)
	if e != api.OK || g.Len() != 1024 || !slices.Equal(told(g), edges("0-512 0-1023 512-1023")) {
		t.Errorf("1024 points: %v", e)
	}
	for first, want := range map[int]api.Errno{0: api.ErrCycle, 1023: api.ErrCycle, 1024: api.ErrRange} {
		parents[0] = []int{first}
		if g, e := graph.Moral(parents); g != nil || e != want {
			t.Errorf("1024 points, the first on %d: %v, %v", first, g, e)
		}
	}
}

// TestSmallMorals: all ways in which up to four points hang on one another, and
// all short lists, whatever is wrong with them.
func TestSmallMorals(t *testing.T) {
	for parents := range samples.SmallParents(4) {
		checkMoral(t, parents)
	}
	var lists [][]int
	for l := range samples.ListsOf([]int{-1, 0, 1, 2, 3}, 2) {
		lists = append(lists, l)
	}
	for parents := range samples.ListsOf(lists, 3) {
		checkMoral(t, parents)
	}
}

// TestDrawnMorals: more points.
func TestDrawnMorals(t *testing.T) {
	source := rand.New(rand.NewSource(153))
	for i := range 200 {
		checkMoral(t, samples.DrawnParents(source, 1+i%100, 1+i%7, false))
	}
}

// TestGreatestMorals: all points on all that come ahead, and a chain.
func TestGreatestMorals(t *testing.T) {
	g, e := graph.Moral(samples.FullParents(api.MaxVars))
	if e != api.OK || len(told(g)) != api.MaxVars*(api.MaxVars-1)/2 {
		t.Errorf("all on all ahead: %v", e)
	}
	chain := samples.RowOfParents(api.MaxVars)
	g, e = graph.Moral(chain)
	if e != api.OK || !slices.Equal(told(g), asMoral(chain).Edges()) {
		t.Errorf("a chain: %v", e)
	}
}
