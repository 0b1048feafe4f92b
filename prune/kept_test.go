package prune_test

import (
	"math/rand"
	"slices"
	"testing"

	"credence/api"
	"credence/prune"
	"credence/samples"
)

// 17.2: Kept.

// checkKept holds Kept against its row.
func checkKept(t *testing.T, parents, asked, given, how, want string) {
	t.Helper()
	if got := kept(t, hung(parents), list(asked), list(given), waysOf(how)); !slices.Equal(got, list(want)) {
		t.Errorf("Kept(%s, %s; given %s; %s): %v, want %s", parents, asked, given, how, got, want)
	}
}

// TestExamplesOfKept: the chapter's rows.
func TestExamplesOfKept(t *testing.T) {
	for _, c := range []struct{ asked, given, how, want string }{
		{"2", "", "neither", "0 1 2 3 4"}, {"2", "", "barren", "0 1 2"}, {"2", "", "apart", "0 1 2"},
		{"2", "4", "barren", "0 1 2 3 4"}, {"2", "4", "apart", "0 1 2 3 4"},
		{"2", "1", "barren", "0 1 2"}, {"2", "1", "apart", "2"},
		{"2", "1 4", "apart", "2"},
		{"0", "2", "apart", "0 1 2"},
		{"2", "2", "apart", ""}, {"", "4", "apart", ""}, {"", "4", "barren", "0 1 3 4"},
	} {
		checkKept(t, "| 0 | 1 | 1 | 3", c.asked, c.given, c.how, c.want)
	}
	if got, e := prune.Kept(p(), list("5"), nil, true, false); len(got) > 0 || e != api.ErrRange {
		t.Errorf("Kept(P, 5; none; barren): %v, %v", got, e)
	}
	if got, e := prune.Kept(hung("0"), list("0"), nil, false, false); len(got) > 0 || e != api.ErrCycle {
		t.Errorf("Kept of 0 on 0: %v, %v", got, e)
	}
}

// TestNeither: where nothing is left out all points are kept, whatever is asked.
func TestNeither(t *testing.T) {
	for _, l := range choices(5) {
		checkKept(t, "| 0 | 1 | 1 | 3", "", "", "neither", "0 1 2 3 4")
		if got := kept(t, p(), l, l, ways{}); !slices.Equal(got, numbers(5)) {
			t.Errorf("Kept(P, %v; given the same; neither): %v", l, got)
		}
	}
	for _, none := range [][][]int{nil, {}} {
		for _, w := range eachWay() {
			if got := kept(t, none, nil, nil, w); len(got) > 0 {
				t.Errorf("of no points %v are kept, %v", got, w)
			}
		}
	}
}

func TestApart(t *testing.T) {
	for _, c := range []struct{ parents, asked, given, want string }{
		// A chain: what is above tells, as far as to what is given.
		{"| 0 | 1", "0", "", "0"}, {"| 0 | 1", "2", "", "0 1 2"}, {"| 0 | 1", "2", "0", "1 2"}, {"| 0 | 1", "2", "1", "2"}, {"| 0 | 1", "2", "0 1", "2"},
		// What was seen tells something of what is above it, and its table how.
		{"| 0 | 1", "0", "1", "0 1"}, {"| 0 | 1", "0", "2", "0 1 2"}, {"| 0 | 1", "0", "1 2", "0 1"}, {"| 0 | 1", "1", "0 2", "1 2"},
		// A fork.
		{"1 | | 1", "0", "", "0 1"}, {"1 | | 1", "0", "1", "0"}, {"1 | | 1", "0", "2", "0 1 2"}, {"1 | | 1", "0", "2 1", "0"},
		// A meeting: closed; open by itself; open from below, near or far.
		{"| 0 2 |", "0", "", "0"}, {"| 0 2 |", "0", "2", "0"}, {"| 0 2 |", "0", "1", "0 1 2"}, {"| 0 2 |", "0", "1 2", "0 1"}, {"| 0 2 |", "1", "2", "0 1"},
		{"| | 0 1 | 2", "0", "3", "0 1 2 3"}, {"| | 0 1 | 2 | 3", "0", "4", "0 1 2 3 4"}, {"| | 0 1 | 2 | 3", "0", "4 2", "0 1 2"}, {"| | 0 1 | 2 | 3", "0", "4 1", "0 2 3 4"},
		// The table of what is given tells nothing where all its parents are given
		// too, or tell nothing.
		{"| 0 | 1 | 1", "2", "0 1 3", "2"}, {"| 0 | 0 1", "1", "0 2", "1 2"}, {"| 0 | | 2", "1", "3", "0 1"}, {"| 0 | | 2 0", "1", "3", "0 1 2 3"}, {"| 0 | | 2 0", "1", "3 0", "1"},
		// Two meetings, one behind the other.
		{"| 0 2 | | 2 4 |", "0", "1", "0 1 2"}, {"| 0 2 | | 2 4 |", "0", "3", "0"}, {"| 0 2 | | 2 4 |", "0", "1 3", "0 1 2 3 4"}, {"| 0 2 | | 2 4 |", "0", "1 2 3", "0 1"},
		// By one way a point is a meeting that is open, by the other it is none.
		{"1 2 | | 3 | 1 4 |", "0", "", "0 1 2 3 4"}, {"1 2 | | 3 | 1 4 |", "0", "2", "0 1 2 3 4"}, {"1 2 | | 3 | 1 4 |", "0", "2 3", "0 1 3 4"}, {"1 2 | | 3 | 1 4 |", "1", "2 3", "1 3 4"}, {"1 2 | | 3 | 1 4 |", "0", "2 1", "0"},
		// Several points, in any order; some come twice, or are given, or both.
		{"| 0 | 1 | | 3", "4 1", "", "0 1 3 4"}, {"| 0 | 1 | | 3", "4 1 4", "3 0 3", "1 4"}, {"| 0 | 1 | | 3", "1 4 2", "1 3 2", "4"}, {"| 0 | 1 | | 3", "0 1", "1 2", "0 1"}, {"| 0 | 1 | | 3", "0 1", "1 0 0", ""},
		// None asked, or all given; points without ties.
		{"| 0 | 1", "", "", ""}, {"| 0 | 1", "", "2 0", ""}, {"| 0 | 1", "0 1 2", "0 1 2", ""}, {"| |", "2 0", "1", "0 2"}, {"| |", "2 0", "0", "2"}, {"", "0", "", "0"}, {"", "0", "0", ""},
	} {
		checkKept(t, c.parents, c.asked, c.given, "apart", c.want)
		checkKept(t, c.parents, c.asked, c.given, "both", c.want)
	}
}

// TestSmall: all parents of up to four points, each point asked, given, or
// neither.
func TestSmall(t *testing.T) {
	for parents := range small(4) {
		for asked, given := range roles(len(parents)) {
			checkJudged(t, parents, asked, given)
		}
	}
}

// TestSmallLists: all short lists of points, in any order; points in both too.
func TestSmallLists(t *testing.T) {
	for parents := range small(3) {
		for asked := range samples.ListsOf(numbers(len(parents)), 3) {
			for given := range samples.ListsOf(numbers(len(parents)), 2) {
				checkJudged(t, parents, asked, given)
			}
		}
	}
}

// TestDrawn: more points.
func TestDrawn(t *testing.T) {
	source := rand.New(rand.NewSource(172))
	left := map[ways]int{}
	for i := range 2000 {
		parents := drawn(source, 3+i%25, 1+i%3, false)
		count := len(parents)
		asked, given := some(source, count, 3+i%20), some(source, count, i%60)
		checkJudged(t, parents, asked, given)
		for _, w := range eachWay() {
			left[w] += count - len(kept(t, parents, asked, given, w))
		}
	}
	if left[ways{barren: true}] < 1000 || left[ways{apart: true}] < 1000+left[ways{barren: true}] {
		t.Errorf("too little is left out to tell: %v", left)
	}
}
