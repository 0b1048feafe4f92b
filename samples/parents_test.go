package samples_test

import (
	"math/rand"
	"slices"
	"testing"

	"credence/samples"
)

// TestHung: a list for each point, whatever blanks there are.
func TestHung(t *testing.T) {
	for text, want := range map[string][][]int{
		"": {nil}, "|": {nil, nil}, "| 0 |2 1| ": {nil, {0}, {2, 1}, nil}, "1|0": {{1}, {0}},
	} {
		if got := samples.Hung(text); !samples.SameLists(got, want) {
			t.Errorf("Hung(%q): %v", text, got)
		}
	}
}

// TestSmallParents: each way once, of all sizes; it may be stopped.
func TestSmallParents(t *testing.T) {
	var got [][][]int
	for parents := range samples.SmallParents(3) {
		for _, list := range parents {
			slices.Sort(list)
		}
		if slices.ContainsFunc(got, func(other [][]int) bool { return samples.SameLists(other, parents) }) {
			t.Fatalf("%v came twice", parents)
		}
		got = append(got, parents)
	}
	if len(got) != 1+2+16+512 {
		t.Errorf("%d ways", len(got))
	}
	for range samples.SmallParents(30) {
		break
	}
}

// TestSmallDags: those that may be, of all sizes, as many as there are; it may
// be stopped.
func TestSmallDags(t *testing.T) {
	counts := make([]int, 5)
	for parents := range samples.SmallDags(4) {
		counts[len(parents)]++
		for point, list := range parents {
			for _, parent := range list {
				if samples.Hangs(parents, parent, point) {
					t.Fatalf("%v: %d hangs on itself", parents, point)
				}
			}
		}
	}
	if !slices.Equal(counts, []int{1, 1, 3, 25, 543}) {
		t.Errorf("%v of each size", counts)
	}
	for range samples.SmallDags(30) {
		break
	}
}

// TestHangs: on itself, on parents, on theirs; not on children, nor on others.
func TestHangs(t *testing.T) {
	parents := samples.Hung("| 0 | 3 1 | |")
	for point, want := range []string{"0", "0 1", "0 1 2 3", "3", "4"} {
		for on := range parents {
			if got := samples.Hangs(parents, point, on); got != slices.Contains(samples.List(want), on) {
				t.Errorf("%d on %d: %v", point, on, got)
			}
		}
	}
}

// TestDrawnParents: where nothing may lead back, nothing does: the points can be
// taken out one by one.
func TestDrawnParents(t *testing.T) {
	source := rand.New(rand.NewSource(1))
	for count := range 40 {
		var out []int
		parents := samples.DrawnParents(source, count, 3, false)
		for range count {
			for point, list := range parents {
				if !slices.Contains(out, point) && !slices.ContainsFunc(list, func(p int) bool { return !slices.Contains(out, p) }) {
					out = append(out, point)
				}
			}
		}
		if len(parents) != count || len(out) != count {
			t.Fatalf("%d points, %v: %v are taken out", count, parents, out)
		}
	}
}

// TestManyParents: rows, and all on all that come ahead.
func TestManyParents(t *testing.T) {
	for count, want := range []string{"", "", "1 |", "1 | 2 |", "1 | 2 | 3 |"} {
		if got := samples.RowOfParents(count); len(got) != count || count > 0 && !samples.SameLists(got, samples.Hung(want)) {
			t.Errorf("RowOfParents(%d): %v", count, got)
		}
	}
	for count, want := range []string{"", "", "| 0", "| 0 | 0 1", "| 0 | 0 1 | 0 1 2"} {
		if got := samples.FullParents(count); len(got) != count || count > 0 && !samples.SameLists(got, samples.Hung(want)) {
			t.Errorf("FullParents(%d): %v", count, got)
		}
	}
}
