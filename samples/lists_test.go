package samples_test

import (
	"math/rand"
	"slices"
	"testing"

	"credence/samples"
)

// TestList: words that stand apart, and one that is no number.
func TestList(t *testing.T) {
	if got := samples.List(" 3 -1\t0\n12 "); !slices.Equal(got, []int{3, -1, 0, 12}) || len(samples.List("  ")) != 0 {
		t.Errorf("List: %v", got)
	}
	defer func() {
		if recover() == nil {
			t.Error("a word that is no number was let through")
		}
	}()
	samples.List("1 x")
}

// TestNumbers: from 0 on.
func TestNumbers(t *testing.T) {
	if got := samples.Numbers(4); !slices.Equal(got, []int{0, 1, 2, 3}) || len(samples.Numbers(0)) != 0 {
		t.Errorf("Numbers: %v", got)
	}
}

// TestChoices: each choice once.
func TestChoices(t *testing.T) {
	want := [][]int{nil, {0}, {1}, {0, 1}, {2}, {0, 2}, {1, 2}, {0, 1, 2}}
	for count := range 4 {
		if got := samples.Choices(count); !samples.SameLists(got, want[:1<<count]) {
			t.Errorf("Choices(%d): %v", count, got)
		}
	}
}

// TestOrders: each order once.
func TestOrders(t *testing.T) {
	want := [][]int{{5, 0, 7}, {5, 7, 0}, {0, 5, 7}, {0, 7, 5}, {7, 5, 0}, {7, 0, 5}}
	list := []int{5, 0, 7}
	if got := samples.Orders(list); !samples.SameLists(got, want) || !slices.Equal(list, []int{5, 0, 7}) {
		t.Errorf("Orders of three: %v", got)
	}
	if got := samples.Orders(nil); !samples.SameLists(got, [][]int{nil}) {
		t.Errorf("Orders of none: %v", got)
	}
	if got := samples.Orders(samples.Numbers(6)); len(got) != 720 {
		t.Errorf("six have %d orders", len(got))
	}
}

// TestDrawnNumbers: of the numbers that there are, about as many as were asked
// for, none more than twice.
func TestDrawnNumbers(t *testing.T) {
	source := rand.New(rand.NewSource(2))
	for _, percent := range []int{0, 30, 100} {
		all := 0
		for range 100 {
			times := make([]int, 20)
			for _, number := range samples.DrawnNumbers(source, 20, percent) {
				times[number]++
				all++
			}
			if slices.Max(times) > 2 {
				t.Fatalf("of 20, %d of a hundred: %v times", percent, times)
			}
		}
		if low, high := 2000*percent/100-200, 2000*percent/100+200; all < low || all > high || percent == 0 && all > 0 {
			t.Errorf("%d of a hundred of 2000: %d", percent, all)
		}
	}
	if len(samples.DrawnNumbers(source, 0, 50)) > 0 {
		t.Error("of none there are some")
	}
}

// TestSameLists: each list counts, and how many there are.
func TestSameLists(t *testing.T) {
	one := [][]int{{1, 2}, nil}
	for _, other := range [][][]int{nil, {{1, 2}}, {{1, 2}, {3}}, {{2, 1}, nil}, {{1, 2}, nil, nil}} {
		if samples.SameLists(one, other) || !samples.SameLists(other, other) {
			t.Errorf("%v and %v", one, other)
		}
	}
	if !samples.SameLists(one, [][]int{{1, 2}, {}}) {
		t.Error("a nil list is not as good as one without elements")
	}
}

// TestListsOf: each list once, the shorter ones first; it may be stopped.
func TestListsOf(t *testing.T) {
	var got [][]string
	for list := range samples.ListsOf([]string{"a", "b"}, 2) {
		got = append(got, list)
	}
	want := [][]string{nil, {"a"}, {"b"}, {"a", "a"}, {"a", "b"}, {"b", "a"}, {"b", "b"}}
	if !slices.EqualFunc(got, want, slices.Equal) {
		t.Errorf("ListsOf: %v", got)
	}
	for range samples.ListsOf([]int{1}, 5) {
		break
	}
}
