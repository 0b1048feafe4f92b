package radix_test

import (
	"slices"
	"testing"

	"credence/api"
	"credence/radix"
)

// 10.4: All, R9.

// TestExamplesOfAll: the chapter's rows.
func TestExamplesOfAll(t *testing.T) {
	checkAll(t, list("2 2"), [][]int{{0, 0}, {0, 1}, {1, 0}, {1, 1}})
	checkAll(t, nil, [][]int{nil})
	checkAll(t, list("3 0"), nil)
	checkAll(t, list("-1"), nil)
}

func TestAlls(t *testing.T) {
	checkAll(t, list("3"), [][]int{{0}, {1}, {2}})
	checkAll(t, list("2 3"), [][]int{{0, 0}, {0, 1}, {0, 2}, {1, 0}, {1, 1}, {1, 2}})
	checkAll(t, list("2 1 2"), [][]int{{0, 0, 0}, {0, 0, 1}, {1, 0, 0}, {1, 0, 1}})
	checkAll(t, list("1 1"), [][]int{{0, 0}})
}

// TestOverNothing: where Count has an error, and where there are none.
func TestOverNothing(t *testing.T) {
	for _, sizes := range []string{
		"0", "0 0", "0 5", "5 0", "2 0 -1", "2 -1", "-9223372036854775808", "2147483648", "65535 65535", "4294967296 4294967296", "9223372036854775807 3",
		"9223372036854775807 0", "0 9223372036854775807 9223372036854775807", "65535 65535 0", "65535 65535 -1",
	} {
		checkAll(t, list(sizes), nil)
		if radix.All(list(sizes)) == nil {
			t.Errorf("All(%s) is nil", sizes)
		}
	}
}

// TestSmallAlls: all are gone over, in order.
func TestSmallAlls(t *testing.T) {
	for sizes := range small() {
		checkAll(t, sizes, inOrder(sizes))
	}
}

// TestGreatestDigits: a base may be as great as its type has one.
func TestGreatestDigits(t *testing.T) {
	checkAll(t, list("65535"), inOrder(list("65535")))
	checkAll(t, list("2 65535"), inOrder(list("2 65535")))
}

// first are so many digits of an iterator that is stopped behind them.
func first(sizes []int, count int) [][]int {
	var out [][]int
	for at, digits := range radix.All(sizes) {
		if at != len(out) {
			return nil
		}
		out = append(out, digits)
		if len(out) == count {
			break
		}
	}
	return out
}

// sameLists is whether two lists of lists are the same.
func sameLists(a, b [][]int) bool { return slices.EqualFunc(a, b, slices.Equal) }

// TestStopped: stopped anywhere it gave what it gives up to there.
func TestStopped(t *testing.T) {
	for _, sizes := range []string{"", "1", "4", "2 3 2", "1 5"} {
		all := inOrder(list(sizes))
		for count := 1; count <= len(all); count++ {
			if got := first(list(sizes), count); !sameLists(got, all[:count]) {
				t.Fatalf("All(%s), stopped behind %d: %v", sizes, count, got)
			}
		}
	}
}

// TestManyAhead: what is not gone over costs nothing.
func TestManyAhead(t *testing.T) {
	for sizes, want := range map[string][][]int{
		"2147483647":          {{0}, {1}, {2}},
		"46340 46341":         {{0, 0}, {0, 1}, {0, 2}},
		"1073741823 2":        {{0, 0}, {0, 1}, {1, 0}},
		"2 9 7 11 31 151 331": {{0, 0, 0, 0, 0, 0, 0}, {0, 0, 0, 0, 0, 0, 1}, {0, 0, 0, 0, 0, 0, 2}},
	} {
		if got := first(list(sizes), 3); !sameLists(got, want) {
			t.Errorf("All(%s): %v", sizes, got)
		}
	}
}

// TestAgain: it begins at the start each time, whatever became of it before.
func TestAgain(t *testing.T) {
	for _, sizes := range []string{"", "2 3", "3 0", "-1", "2 2 2"} {
		all := radix.All(list(sizes))
		_, code := radix.Count(list(sizes))
		var want [][]int
		if code == api.OK {
			want = inOrder(list(sizes))
		}
		for range all {
			break
		}
		for range 3 {
			checkGone(t, all, want)
		}
		for at := range all {
			if at == 2 {
				break
			}
		}
		checkGone(t, all, want)
	}
}

// TestWithinItself: one that is gone over within itself does not mind.
func TestWithinItself(t *testing.T) {
	all := radix.All([]short{2, 3})
	want := inOrder(list("2 3"))
	count := 0
	for at, digits := range all {
		if at != count || !slices.Equal(ints(digits), want[count]) {
			t.Fatalf("the outer one: %d, %v behind %d others", at, digits, count)
		}
		checkGone(t, all, want)
		count++
	}
	if count != len(want) {
		t.Fatalf("the outer one goes over %d", count)
	}
}

// TestAsItWas: it goes over what the bases were at the call.
func TestAsItWas(t *testing.T) {
	want := inOrder(list("2 3"))
	for _, later := range []string{"0 0", "-1 -1", "5 5", "2147483647 2147483647", "1 1"} {
		sizes := list("2 3")
		all := radix.All(sizes)
		copy(sizes, list(later))
		checkGone(t, all, want)
		sizes = list("2 3")
		count := 0
		for at, digits := range radix.All(sizes) {
			copy(sizes, list(later))
			if at != count || !slices.Equal(digits, want[count]) {
				t.Fatalf("with %s from the first on: %d, %v", later, at, digits)
			}
			count++
		}
		if count != len(want) {
			t.Fatalf("with %s from the first on: %d", later, count)
		}
	}
	// And one that went over nothing does so still.
	for _, before := range []string{"2 0", "-1 2", "2147483647 2147483647"} {
		sizes := list(before)
		all := radix.All(sizes)
		copy(sizes, list("2 3"))
		checkGone(t, all, nil)
	}
}

// TestWrittenOver: what is done to digits, to their spare room too, is not
// seen in those that follow.
func TestWrittenOver(t *testing.T) {
	want := inOrder(list("3 2 2"))
	all := radix.All(list("3 2 2"))
	for range 2 {
		for at, digits := range all {
			if !slices.Equal(digits, want[at]) {
				t.Fatalf("%d: %v, want %v", at, digits, want[at])
			}
			room := digits[:cap(digits)]
			for i := range room {
				room[i] = -7
			}
		}
	}
}
