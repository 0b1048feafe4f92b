package sep_test

import (
	"math/rand"
	"slices"
	"testing"

	"credence/api"
	"credence/samples"
	"credence/sep"
)

// 16.2: Reach. 16.3: Apart. What they tell of single points is looked at with
// Trail, too.

// checkReach holds Reach against its row.
func checkReach(t *testing.T, parents, a, given, want string) {
	t.Helper()
	if got, e := sep.Reach(hung(parents), list(a), list(given)); !slices.Equal(got, list(want)) || e != api.OK {
		t.Errorf("Reach(%s, %s; %s): %v, %v, want %s", parents, a, given, got, e, want)
	}
}

// TestExamplesOfReach: the chapter's rows.
func TestExamplesOfReach(t *testing.T) {
	const p = "| 0 | 0 | 1 2 | 3"
	checkReach(t, p, "0", "", "0 1 2 3 4")
	checkReach(t, p, "1", "0", "1 3 4")
	checkReach(t, p, "1", "0 4", "1 2 3")
	checkReach(t, p, "0", "0", "")
}

func TestReach(t *testing.T) {
	for _, c := range []struct{ parents, a, given, want string }{
		// A chain, a fork, a meeting.
		{"| 0 | 1", "0", "", "0 1 2"}, {"| 0 | 1", "0", "1", "0"}, {"| 0 | 1", "2", "1", "2"}, {"| 0 | 1", "1", "0 2", "1"},
		{"1 | | 1", "0", "", "0 1 2"}, {"1 | | 1", "0", "1", "0"}, {"1 | | 1", "1", "0", "1 2"},
		{"| 0 2 |", "0", "", "0 1"}, {"| 0 2 |", "0", "1", "0 2"}, {"| 0 2 |", "1", "", "0 1 2"}, {"| 0 2 |", "1", "0", "1 2"},
		// A meeting of which a point below is given, near or far, or one that is
		// not below it.
		{"| | 0 1 | 2", "0", "3", "0 1 2"}, {"| | 0 1 | 2 | 3 | 4", "0", "5", "0 1 2 3 4"}, {"| | 0 1 | 2 | 3 | 4", "0", "3 5", "0 1 2"}, {"| | 0 1 | 2 | 0", "0", "4", "0 2 3"},
		// A meeting that is given lets nothing down.
		{"| | 0 1 | 2", "0", "2", "0 1"}, {"| | 0 1 | 2 | 2", "3", "4", "0 1 2 3"}, {"| | 0 1 | 2 | 2", "3", "2", "3"},
		// Two meetings, one behind the other.
		{"| 0 2 | | 2 4 |", "0", "1", "0 2 3"}, {"| 0 2 | | 2 4 |", "0", "3", "0 1"}, {"| 0 2 | | 2 4 |", "0", "1 3", "0 2 4"}, {"| 0 2 | | 2 4 |", "0", "1 2 3", "0"},
		// By one way a point is a meeting that is not open, by the other it is none.
		{"1 2 | | 3 | 1 4 |", "0", "", "0 1 2 3 4"}, {"1 2 | | 3 | 1 4 |", "0", "2", "0 1 3 4"}, {"1 2 | | 3 | 1 4 |", "0", "3", "0 1 2 4"},
		// Several points; some come twice, or are given, or both.
		{"| 0 2 |", "0 2", "", "0 1 2"}, {"| 0 2 |", "2 0 2", "1 1", "0 2"}, {"| 0 | 1 | | 3", "4 0", "1 3", "0 4"}, {"| 0 | 1 | | 3", "3 1 3", "3 1 3", ""}, {"| 0 | 1 | | 3", "3 2 0", "3 1 3", "0 2"},
		// None, and points without ties.
		{"| 0 2 |", "", "", ""}, {"| 0 2 |", "", "1", ""}, {"| |", "1", "", "1"}, {"| |", "2 0", "1", "0 2"}, {"", "0", "", "0"}, {"", "0", "0", ""},
	} {
		checkReach(t, c.parents, c.a, c.given, c.want)
	}
}

// checkApart holds Apart against its row, either way round.
func checkApart(t *testing.T, parents, a, b, given string, want bool) {
	t.Helper()
	for range 2 {
		if got, e := sep.Apart(hung(parents), list(a), list(b), list(given)); got != want || e != api.OK {
			t.Errorf("Apart(%s, %s; %s; %s): %v, %v", parents, a, b, given, got, e)
		}
		a, b = b, a
	}
}

// TestExamplesOfApart: the chapter's rows.
func TestExamplesOfApart(t *testing.T) {
	const p = "| 0 | 0 | 1 2 | 3"
	checkApart(t, p, "1", "2", "0", true)
	checkApart(t, p, "1", "2", "0 3", false)
	checkApart(t, p, "1", "2", "0 4", false)
	checkApart(t, p, "1", "2", "", false)
	checkApart(t, p, "1", "1", "0", false)
	checkApart(t, p, "1", "1", "1", true)
	checkApart(t, p, "", "1", "", true)
}

func TestApart(t *testing.T) {
	for _, c := range []struct {
		parents, a, b, given string
		want                 bool
	}{
		{"| 0 | 1", "0", "2", "", false}, {"| 0 | 1", "0", "2", "1", true}, {"1 | | 1", "0", "2", "1", true}, {"| 0 2 |", "0", "2", "", true}, {"| 0 2 |", "0", "2", "1", false},
		// One of several is enough.
		{"| 0 2 | | 2", "0 3", "2", "", false}, {"| 0 2 | | 2", "0", "2 3", "", true}, {"| 0 2 | | 2", "0", "3 2 1", "", false}, {"| 0 2 | | 2", "0", "2 3", "1", false},
		// A point of both is not apart from itself, if it is not given.
		{"| |", "0 1", "1 2", "", false}, {"| |", "0 1", "1 2", "1", true}, {"| |", "0 1", "2", "", true}, {"| |", "0 0", "2 2 2", "1 1", true},
		// None, or only what is given.
		{"| 0 | 1", "", "", "", true}, {"| 0 | 1", "0 1 2", "", "", true}, {"| 0 | 1", "1", "0 1 2", "1", true}, {"| 0 | 1", "0 1 2", "0 1 2", "0 1 2", true},
	} {
		checkApart(t, c.parents, c.a, c.b, c.given, c.want)
	}
}

// TestSmallLists: all parents of up to three points, all short lists.
func TestSmallLists(t *testing.T) {
	for parents := range small(3) {
		for a := range samples.ListsOf(numbers(len(parents)), 3) {
			for _, b := range choices(len(parents)) {
				for given := range samples.ListsOf(numbers(len(parents)), 2) {
					checkLists(t, parents, a, b, given)
				}
			}
		}
	}
}

// TestDrawnLists: more points.
func TestDrawnLists(t *testing.T) {
	source := rand.New(rand.NewSource(162))
	for i := range 1500 {
		parents := drawn(source, 2+i%7, 1+i%2, false)
		count := len(parents)
		checkLists(t, parents, some(source, count, 30), some(source, count, 30), some(source, count, i%80))
	}
}
