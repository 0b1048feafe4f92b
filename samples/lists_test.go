package samples_test

import (
	"slices"
	"testing"

	"credence/samples"
)

// TestList: words that stand apart, and one that is no number.
func TestList(t *testing.T) {
	if got := samples.List(" 3 -1\t0\n12 "); !slices.Equal(got, []int{3, -1, 0, 12}) || len(samples.List("  ")) != 0 {
		t.Errorf("List: %v", got)
	}
	defer func() {
		if recover() == nil {
			t.Error("a word that is no number was let through")
		}
	}()
	samples.List("1 x")
}

// TestNumbers: from 0 on.
func TestNumbers(t *testing.T) {
	if got := samples.Numbers(4); !slices.Equal(got, []int{0, 1, 2, 3}) || len(samples.Numbers(0)) != 0 {
		t.Errorf("Numbers: %v", got)
	}
}

// TestSameLists: each list counts, and how many there are.
func TestSameLists(t *testing.T) {
	one := [][]int{{1, 2}, nil}
	for _, other := range [][][]int{nil, {{1, 2}}, {{1, 2}, {3}}, {{2, 1}, nil}, {{1, 2}, nil, nil}} {
		if samples.SameLists(one, other) || !samples.SameLists(other, other) {
			t.Errorf("%v and %v", one, other)
		}
	}
	if !samples.SameLists(one, [][]int{{1, 2}, {}}) {
		t.Error("a nil list is not as good as one without elements")
	}
}

// TestListsOf: each list once, the shorter ones first; it may be stopped.
func TestListsOf(t *testing.T) {
	var got [][]string
	for list := range samples.ListsOf([]string{"a", "b"}, 2) {
		got = append(got, list)
	}
	want := [][]string{nil, {"a"}, {"b"}, {"a", "a"}, {"a", "b"}, {"b", "a"}, {"b", "b"}}
	if !slices.EqualFunc(got, want, slices.Equal) {
		t.Errorf("ListsOf: %v", got)
	}
	for range samples.ListsOf([]int{1}, 5) {
		break
	}
}
