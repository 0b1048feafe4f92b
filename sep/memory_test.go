package sep_test

import (
	"slices"
	"testing"

	"credence/api"
	"credence/samples"
	"credence/sep"
)

// R3, R4, R5: what is handed in is not changed, what is answered is new memory.

// marks are numbers that are no points of these tests, and that would show.
var marks = samples.Marks[int]{Spare: 77, Ink: -99}

// answers are what all calls answer, each twice.
func answers(parents [][]int, a, b, given []int) [][]int {
	var out [][]int
	put := func(l []int, _ api.Errno) { out = append(out, l) }
	for range 2 {
		put(sep.Reach(parents, a, given))
		if is, _ := sep.Apart(parents, a, b, given); is {
			out = append(out, []int{1})
		}
		for x := range parents {
			put(sep.Blanket(parents, x))
			for y := range parents {
				put(sep.Trail(parents, x, y, given))
			}
		}
	}
	return out
}

// TestMemory: of parents that may be and of some that may not.
func TestMemory(t *testing.T) {
	texts := []string{"", "|", "| 0 | 0 | 1 2 | 3", "1 | 2 | 0", "0", "| 0 0", "5 |", "3 2 1 | 3 2 | 3 |", "| | | 2 1 0", "| 0 | 0 | 0 | 0 | 0"}
	lists := []string{"", "0", "1 0", "0 0 0", "3 2 3", "-1"}
	for _, text := range texts {
		parents := hung(text)
		count := len(parents)
		call := func(in [][]int) [][]int { return answers(in[:count], in[count], in[count+1], in[count+2]) }
		for _, a := range lists {
			for _, b := range lists {
				for _, given := range lists {
					if wrong := samples.Alone(call, slices.Concat(parents, [][]int{list(a), list(b), list(given)}), marks); wrong != "" {
						t.Fatalf("%s; %s; %s; %s: %s", text, a, b, given, wrong)
					}
				}
			}
		}
	}
}

// TestRoomBehind: the spare room behind the list of lists is left alone.
func TestRoomBehind(t *testing.T) {
	room := append(p(), []int{8}, []int{9})
	answers(room[:5], []int{1}, []int{2}, []int{0, 4})
	if !samples.SameLists(room, hung("| 0 | 0 | 1 2 | 3 | 8 | 9")) {
		t.Errorf("the parents are %v", room)
	}
}

// TestOneListTwice: one list may be handed in at several places.
func TestOneListTwice(t *testing.T) {
	one := []int{0, 1}
	parents := [][]int{nil, one[:1], one, one[:1], one}
	checkEach(t, parents, one)
	checkEach(t, parents, parents[3])
	checkLists(t, parents, one, one, one)
	checkLists(t, parents, one, one, one[1:])
	checkBlankets(t, parents)
	if !slices.Equal(one, []int{0, 1}) {
		t.Errorf("the list became %v", one)
	}
}

// TestNoneAndEmpty: a nil list is one without elements.
func TestNoneAndEmpty(t *testing.T) {
	for _, parents := range [][][]int{{nil, {}, {0, 1}, {}}, {{}, nil, {0, 1}, nil}} {
		for _, none := range [][]int{nil, {}} {
			checkEach(t, parents, none)
			checkLists(t, parents, none, none, none)
			checkLists(t, parents, []int{0}, none, []int{2})
			checkLists(t, parents, none, []int{0}, none)
		}
	}
}

// TestSaidTwice: points that are named twice, in whatever order, are as good as
// named once.
func TestSaidTwice(t *testing.T) {
	want := answers(p(), list("1 2"), list("3 4"), list("0"))
	for range 3 {
		if got := answers(p(), list("2 1 2 2"), list("4 3 4"), list("0 0 0")); !samples.SameLists(got, want) {
			t.Fatalf("%v, want %v", got, want)
		}
	}
	want = answers(p(), list("1"), list("2"), list("0 4"))
	if got := answers(p(), list("1 1"), list("2"), list("4 0 4 0 0")); !samples.SameLists(got, want) {
		t.Errorf("%v, want %v", got, want)
	}
}
