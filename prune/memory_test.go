package prune_test

import (
	"slices"
	"testing"

	"credence/api"
	"credence/prune"
	"credence/samples"
)

// R3, R4, R5: what is handed in is not changed, what is answered is new memory.

// marks are numbers that are no points of these tests, and that would show.
var marks = samples.Marks[int]{Spare: 77, Ink: -99}

// answers are what both calls answer, each twice.
func answers(parents [][]int, asked, given []int) [][]int {
	var out [][]int
	put := func(l []int, _ api.Errno) { out = append(out, l) }
	for range 2 {
		put(prune.Barren(parents, asked, given))
		for _, w := range eachWay() {
			put(prune.Kept(parents, asked, given, w.barren, w.apart))
		}
	}
	return out
}

// TestMemory: of parents that may be and of some that may not.
func TestMemory(t *testing.T) {
	texts := []string{"", "|", "| 0 | 1 | 1 | 3", "1 | 2 | 0", "0", "| 0 0", "5 |", "3 2 1 | 3 2 | 3 |", "| | | 2 1 0", "| 0 | 0 | 0 | 0 | 0"}
	lists := []string{"", "0", "1 0", "0 0 0", "3 2 3", "-1"}
	for _, text := range texts {
		parents := hung(text)
		count := len(parents)
		call := func(in [][]int) [][]int { return answers(in[:count], in[count], in[count+1]) }
		for _, asked := range lists {
			for _, given := range lists {
				if wrong := samples.Alone(call, slices.Concat(parents, [][]int{list(asked), list(given)}), marks); wrong != "" {
					t.Fatalf("%s; %s; given %s: %s", text, asked, given, wrong)
				}
			}
		}
	}
}

// TestRoomBehind: the spare room behind the list of lists is left alone, and
// tells nothing.
func TestRoomBehind(t *testing.T) {
	room := append(p(), []int{4}, []int{9})
	if got := answers(room[:5], list("2"), list("4")); !samples.SameLists(got, answers(p(), list("2"), list("4"))) {
		t.Errorf("%v", got)
	}
	if !samples.SameLists(room, hung("| 0 | 1 | 1 | 3 | 4 | 9")) {
		t.Errorf("the parents are %v", room)
	}
}

// TestOneListTwice: one list may be handed in at several places.
func TestOneListTwice(t *testing.T) {
	one := []int{0, 1}
	parents := [][]int{nil, one[:1], one, one[:1], one}
	checkJudged(t, parents, one, one)
	checkJudged(t, parents, one, one[1:])
	checkJudged(t, parents, parents[3], one[1:])
	if !slices.Equal(one, []int{0, 1}) {
		t.Errorf("the list became %v", one)
	}
}

// TestNoneAndEmpty: a nil list is one without elements.
func TestNoneAndEmpty(t *testing.T) {
	for _, parents := range [][][]int{{nil, {}, {0, 1}, {}}, {{}, nil, {0, 1}, nil}} {
		for _, none := range [][]int{nil, {}} {
			checkJudged(t, parents, none, none)
			checkJudged(t, parents, []int{0}, none)
			checkJudged(t, parents, none, []int{2})
		}
	}
}

// TestSaidTwice: points that are named twice, in whatever order, are as good as
// named once; what is both asked and given is as good as given alone.
func TestSaidTwice(t *testing.T) {
	want := answers(p(), list("2 4"), list("0 3"))
	for _, asked := range []string{"4 2", "2 4 2", "4 4 2 2", "4 0 2", "3 2 0 4 3"} {
		for _, given := range []string{"3 0", "0 3 0", "3 3 0"} {
			if got := answers(p(), list(asked), list(given)); !samples.SameLists(got, want) {
				t.Errorf("%s; given %s: %v, want %v", asked, given, got, want)
			}
		}
	}
}
