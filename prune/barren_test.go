package prune_test

import (
	"slices"
	"testing"

	"credence/api"
	"credence/prune"
)

// 17.1: Barren.

// checkBarren holds Barren against its row; what is asked and what is given may
// be told the other way round.
func checkBarren(t *testing.T, parents, asked, given, want string) {
	t.Helper()
	for range 2 {
		if got, e := prune.Barren(hung(parents), list(asked), list(given)); !slices.Equal(got, list(want)) || e != api.OK {
			t.Errorf("Barren(%s, %s; given %s): %v, %v, want %s", parents, asked, given, got, e, want)
		}
		asked, given = given, asked
	}
}

// TestExamplesOfBarren: the chapter's row.
func TestExamplesOfBarren(t *testing.T) {
	const p = "| 0 | 1 | 1 | 3"
	checkBarren(t, p, "2", "", "3 4")
	checkBarren(t, p, "2", "4", "")
	checkBarren(t, p, "", "", "0 1 2 3 4")
}

func TestBarren(t *testing.T) {
	for _, c := range []struct{ parents, asked, given, want string }{
		// What is below; what is above is needed, by way of others too.
		{"| 0 | 1 | 2", "0", "", "1 2 3"}, {"| 0 | 1 | 2", "2", "", "3"}, {"| 0 | 1 | 2", "3", "", ""}, {"1 | 2 | 3 |", "1", "", "0"},
		// What stands beside: children of parents, parents of children.
		{"| 0 | 0", "1", "", "2"}, {"| | 0 1", "0", "", "1 2"}, {"| | 0 1", "0", "2", ""}, {"| | 0 1 | 2", "0", "3", ""}, {"| | 0 1 | 2", "0", "1", "2 3"},
		// What is given keeps nothing away that is above it.
		{"| 0 | 1 | 2", "3", "1", ""}, {"| 0 | 1 | 2", "1", "1", "2 3"}, {"| 0 | | 2", "1", "1", "2 3"},
		// Several points, in any order; some come twice.
		{"| 0 | 1 | | 3", "4 1", "", "2"}, {"| 0 | 1 | | 3", "1 1", "3 1 3", "2 4"}, {"| 0 | 1 | | 3", "4 2", "0", ""},
		// Points without ties.
		{"| |", "", "", "0 1 2"}, {"| |", "1", "", "0 2"}, {"| |", "2", "0", "1"}, {"", "0", "", ""}, {"", "", "", "0"},
	} {
		checkBarren(t, c.parents, c.asked, c.given, c.want)
	}
}
