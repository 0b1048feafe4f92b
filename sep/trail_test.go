package sep_test

import (
	"math/rand"
	"slices"
	"testing"

	"credence/api"
	"credence/sep"
)

// 16.4: Trail.

// checkTrail holds Trail against its row.
func checkTrail(t *testing.T, parents string, a, b int, given, want string) {
	t.Helper()
	if got, e := sep.Trail(hung(parents), a, b, list(given)); !slices.Equal(got, list(want)) || e != api.OK {
		t.Errorf("Trail(%s, %d, %d; %s): %v, %v, want %s", parents, a, b, given, got, e, want)
	}
}

// TestExamplesOfTrail: the chapter's rows.
func TestExamplesOfTrail(t *testing.T) {
	const p = "| 0 | 0 | 1 2 | 3"
	checkTrail(t, p, 1, 2, "", "1 0 2")
	checkTrail(t, p, 1, 2, "0 4", "1 3 2")
	checkTrail(t, p, 0, 3, "", "0 1 3")
	checkTrail(t, p, 0, 4, "3", "")
	checkTrail(t, p, 2, 2, "", "2")
	checkTrail(t, p, 2, 2, "2", "")
}

func TestTrail(t *testing.T) {
	for _, c := range []struct {
		parents     string
		a, b        int
		given, want string
	}{
		// Down, up, over a fork, over a meeting, over one that is open from below.
		{"| 0 | 1", 0, 2, "", "0 1 2"}, {"| 0 | 1", 2, 0, "", "2 1 0"}, {"1 | | 1", 0, 2, "", "0 1 2"}, {"| 0 2 |", 0, 2, "1", "0 1 2"}, {"| 0 2 |", 0, 2, "", ""}, {"| 0 3 | 1 |", 0, 3, "2", "0 1 3"}, {"| 0 3 | 1 |", 0, 3, "1", "0 1 3"},
		// One of both ends is given, or both.
		{"| 0 | 1", 0, 2, "0", ""}, {"| 0 | 1", 0, 2, "2", ""}, {"| 0 | 1", 0, 1, "0 1", ""}, {"| 0 | 1", 1, 1, "0 2", "1"},
		// A shorter one, though a lesser point leads there too.
		{"| 0 | 1 | 2 0", 0, 3, "", "0 3"}, {"| 0 | 1 | 2 4 | 0", 0, 3, "", "0 4 3"}, {"| 0 | 1 | 2 4 | 0", 0, 3, "4", "0 1 2 3"},
		// The least one, whichever way its steps go and whatever the order of parents.
		{"| 0 | 0 | 2 1", 0, 3, "", "0 1 3"}, {"1 2 | | | 2 1", 0, 3, "", "0 1 3"}, {"2 1 | | | 2 1", 3, 0, "", "3 1 0"},
		{"1 | | 0 | 1 2", 0, 3, "", "0 1 3"}, {"2 | 0 | | 1 2", 0, 3, "", "0 1 3"}, {"2 | 0 3 | |", 0, 2, "", "0 2"}, {"2 | 0 3 | | 2", 0, 3, "1", "0 1 3"}, {"1 | | 0 3 | 1", 0, 3, "2", "0 1 3"},
		// The first place at which they differ counts, though a later one has a
		// less point.
		{"| 0 | 3 | 0 | 1 | 4 2", 0, 5, "", "0 1 4 5"}, {"| 2 3 | 0 | 0", 0, 1, "", "0 2 1"}, {"| 0 | 0 | 4 5 | 2 | 1", 0, 3, "", "0 1 5 3"},
		// A point is reached by a lesser trail as a meeting that is not open.
		{"1 2 | | 3 | 1 4 |", 0, 4, "", "0 2 3 4"}, {"1 2 | | 3 | 1 4 |", 4, 0, "", "4 3 2 0"}, {"1 2 | | 3 | 1 4 | | 3", 0, 4, "5", "0 1 3 4"},
		// What lies below a meeting is not on the trail.
		{"| | 0 1 | 2 | 3", 0, 1, "4", "0 2 1"}, {"3 | 3 | 0 1 |", 0, 1, "2 3", "0 2 1"}, {"| | 0 1 | 2 | 3", 0, 3, "4", "0 2 3"},
		// Several meetings, one given, one open from below.
		{"| 0 2 | | 2 4 | | 3", 0, 4, "1 5", "0 1 2 3 4"}, {"| 0 2 | | 2 4 | | 3", 0, 4, "5", ""}, {"| 0 2 | | 2 4 | | 3 1", 0, 4, "5", "0 1 2 3 4"}, {"| 0 2 | | 2 4 | | 3 1", 0, 4, "5 2", "0 1 5 3 4"},
	} {
		checkTrail(t, c.parents, c.a, c.b, c.given, c.want)
	}
}

// TestSmall: all parents of up to four points, all that can be given.
func TestSmall(t *testing.T) {
	for parents := range small(4) {
		for _, given := range choices(len(parents)) {
			checkEach(t, parents, given)
		}
	}
}

// TestDrawnTrails: more points; trails of all lengths.
func TestDrawnTrails(t *testing.T) {
	source := rand.New(rand.NewSource(164))
	var lengths [6]int
	for i := range 400 {
		parents := drawn(source, 5+i%4, 1+i%3, false)
		given := some(source, len(parents), i%60)
		checkEach(t, parents, given)
		for a := range parents {
			for b := range parents {
				trail, _ := sep.Trail(parents, a, b, given)
				lengths[min(len(trail), 5)]++
			}
		}
	}
	for length, times := range lengths {
		if times < 20 {
			t.Errorf("%d trails of %d points", times, length)
		}
	}
}

// ladder are points in two rings with rungs between them, that hang on one
// another without any order: there are many trails of one length.
func ladder(source *rand.Rand, length int) [][]int {
	parents := make([][]int, 2*length)
	names, ranks := source.Perm(2*length), source.Perm(2*length)
	tie := func(i, j int) {
		child, parent := names[i], names[j%len(names)]
		if ranks[child] < ranks[parent] {
			child, parent = parent, child
		}
		parents[child] = append(parents[child], parent)
	}
	for i := range length {
		tie(2*i, 2*i+2)
		tie(2*i+1, 2*i+3)
		tie(2*i, 2*i+1)
	}
	return parents
}

// TestLadders: longer trails, many of one length.
func TestLadders(t *testing.T) {
	source := rand.New(rand.NewSource(264))
	for i := range 40 {
		parents := ladder(source, 3+i%3)
		given := some(source, len(parents), 20+i%30)
		a := source.Intn(len(parents))
		for b := range parents {
			want := firstTrail(parents, a, b, given)
			if got, e := sep.Trail(parents, a, b, given); !slices.Equal(got, want) || e != api.OK {
				t.Fatalf("Trail(%v, %d, %d; %v): %v, %v, want %v", parents, a, b, given, got, e, want)
			}
		}
	}
}
