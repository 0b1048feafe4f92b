package dag_test

import (
	"math/rand"
	"slices"
	"testing"

	"credence/api"
	"credence/dag"
)

// 14.2: Cycle.

// checkCycle holds Cycle against its row.
func checkCycle(t *testing.T, text, want string) {
	t.Helper()
	if got := dag.Cycle(hung(text)); !slices.Equal(got, list(want)) {
		t.Errorf("Cycle(%s): %v, want %s", text, got, want)
	}
}

// TestExamplesOfCycle: the chapter's rows.
func TestExamplesOfCycle(t *testing.T) {
	checkCycle(t, "1 | 2 | 0", "0 1 2")
	checkCycle(t, "1 | 0 2 | 2", "2")
	checkCycle(t, "2 3 | 0 | 0 | 0", "0 2")
	if got := dag.Cycle(p()); len(got) != 0 {
		t.Errorf("Cycle(P): %v", got)
	}
}

// TestNoCycle: none, if Check tells another error, though something leads back.
func TestNoCycle(t *testing.T) {
	for _, text := range []string{"", "|", "1 |", "| 0 | 0 1", "1", "-1", "0 1", "0 -1", "0 0", "1 1 | 0", "1 | 0 | 0 0", "1 | 0 | 3", "0 | 0 0"} {
		checkCycle(t, text, "")
	}
	if got := dag.Cycle(nil); len(got) != 0 {
		t.Errorf("Cycle of none: %v", got)
	}
}

func TestFewest(t *testing.T) {
	for _, c := range []struct{ text, want string }{
		// The way goes from a point to what it hangs on.
		{"2 | 0 | 1", "0 2 1"}, {"1 | 2 | 0", "0 1 2"}, {"| 3 | 1 | 2", "1 3 2"},
		// A shorter one is told, though it begins at a greater point.
		{"1 | 2 | 0 | 4 | 3", "3 4"}, {"1 | 2 | 3 | 1", "1 2 3"}, {"1 | 0 | | 3", "3"}, {"1 | 2 | 3 | 4 2 | 0", "2 3"},
		// A lesser parent that leads nowhere, or back by more points.
		{"1 2 | | 0", "0 2"}, {"1 2 | 3 | 0 | 0", "0 2"}, {"1 2 | 3 | 4 | 3 | 0", "3"}, {"1 3 | 2 | 0 | 4 | 0", "0 1 2"},
		// A point of which a way back hangs on, but that is on none itself.
		{"1 | 2 | 1 3 |", "1 2"}, {"2 | 0 | 3 | 2", "2 3"},
	} {
		checkCycle(t, c.text, c.want)
	}
}

// TestFirst: of ways of one length the first one, whatever the order in which
// parents stand.
func TestFirst(t *testing.T) {
	for _, c := range []struct{ text, want string }{
		{"| 4 | 3 | 2 | 1", "1 4"}, {"3 | 2 | 1 | 0", "0 3"}, {"0 | 1", "0"}, {"1 | 1 | 2", "1"},
		{"3 2 1 | 0 | 0 | 0", "0 1"}, {"1 2 3 | 0 | 0 | 0", "0 1"}, {"3 2 | | 0 | 0", "0 2"},
		{"1 | 4 3 | | 0 | 0", "0 1 3"}, {"1 | 3 4 | | 0 | 0", "0 1 3"}, {"2 1 | 4 | 3 | 0 | 0", "0 1 4"}, {"1 2 | 4 | 3 | 0 | 0", "0 1 4"},
		// What goes ahead at the third point comes behind at the second.
		{"2 4 | 0 | 3 | 0 | 1", "0 2 3"}, {"4 2 | 0 | 5 | | 1 | 0", "0 2 5"},
		// Of two ways begun at one point that is not its least.
		{"2 | 2 | 1 0", "0 2"}, {"| 3 | 3 | 2 1", "1 3"},
	} {
		checkCycle(t, c.text, c.want)
	}
}

// leaps are points in a ring without any order, of which some hang on the next
// but one too: there are several ways back of about one length.
func leaps(source *rand.Rand, count int) [][]int {
	parents := make([][]int, count)
	names := source.Perm(count)
	for i, point := range names {
		parents[point] = []int{names[(i+1)%count]}
		if source.Intn(2) == 0 {
			parents[point] = slices.Insert(parents[point], source.Intn(2), names[(i+2)%count])
		}
	}
	return parents
}

// TestDrawnCycles: more points, the ways of all lengths.
func TestDrawnCycles(t *testing.T) {
	source := rand.New(rand.NewSource(142))
	var lengths [8]int
	for i := range 4000 {
		for _, parents := range [][][]int{drawn(source, 3+i%7, 1+i%3, true), leaps(source, 3+i%8)} {
			checkTold(t, parents)
			lengths[min(len(dag.Cycle(parents)), 7)]++
		}
	}
	for length, times := range lengths {
		if times < 10 {
			t.Errorf("%d ways of length %d", times, length)
		}
	}
}

// TestLongCycles: one ring of many points, and many rings of one length.
func TestLongCycles(t *testing.T) {
	const many = 100000
	if got := dag.Cycle(ring(many)); !slices.Equal(got, numbers(many)) {
		t.Errorf("a ring of %d: %d points", many, len(got))
	}
	parents := ring(many)
	parents[many/2] = append(parents[many/2], 3)
	if got := dag.Cycle(parents); !slices.Equal(got, numbers(many/2 + 1)[3:]) {
		t.Errorf("a ring within a ring: %d points", len(got))
	}
	if got := dag.Cycle(chain(many)); len(got) != 0 {
		t.Errorf("a chain: %d points", len(got))
	}
	const length, wide = 40, 16
	parents = make([][]int, length*wide)
	for point := range parents {
		for i := range wide {
			parents[point] = append(parents[point], (wide-1-i)*length+(point+1)%length)
		}
	}
	if got := dag.Cycle(parents); !slices.Equal(got, numbers(length)) || dag.Check(parents) != api.ErrCycle {
		t.Errorf("%d rows of %d: %v", length, wide, got)
	}
}
