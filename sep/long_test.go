package sep_test

import (
	"slices"
	"testing"

	"credence/api"
	"credence/samples"
	"credence/sep"
)

// Many points are no burden, in whatever way they hang together.

// checkWay holds all that is told of one way from a to b against what it should
// be, which may be none.
func checkWay(t *testing.T, parents [][]int, a, b int, given, want []int) {
	t.Helper()
	if got, e := sep.Trail(parents, a, b, given); !slices.Equal(got, want) || e != api.OK {
		t.Errorf("Trail from %d to %d: %d points, %v, want %d", a, b, len(got), e, len(want))
	}
	if got, e := sep.Apart(parents, []int{a}, []int{b}, given); got != (want == nil) || e != api.OK {
		t.Errorf("Apart of %d and %d: %v, %v", a, b, got, e)
	}
}

// checkSpread holds Reach of one point against what it should be.
func checkSpread(t *testing.T, parents [][]int, a int, given, want []int) {
	t.Helper()
	if got, e := sep.Reach(parents, []int{a}, given); !slices.Equal(got, want) || e != api.OK {
		t.Errorf("Reach of %d: %d points, %v, want %d", a, len(got), e, len(want))
	}
}

const many = 100000

// TestRow: each point on the next one.
func TestRow(t *testing.T) {
	row := samples.RowOfParents(many)
	checkWay(t, row, 0, many-1, nil, numbers(many))
	checkWay(t, row, 0, many-1, []int{many / 2}, nil)
	checkSpread(t, row, 7, nil, numbers(many))
	checkSpread(t, row, 7, []int{many / 2}, numbers(many/2))
	back := numbers(many)
	slices.Reverse(back)
	checkWay(t, row, many-1, 0, nil, back)
}

// TestMeetings: each odd point on both beside it.
func TestMeetings(t *testing.T) {
	parents := make([][]int, many+1)
	var odd, even []int
	for point := range parents {
		if point%2 == 0 {
			even = append(even, point)
			continue
		}
		odd = append(odd, point)
		parents[point] = []int{point + 1, point - 1}
	}
	checkWay(t, parents, 0, many, nil, nil)
	checkWay(t, parents, 0, many, odd, numbers(many+1))
	checkWay(t, parents, 0, many, odd[1:], nil)
	checkSpread(t, parents, 0, nil, []int{0, 1})
	checkSpread(t, parents, 2, odd, even)
	// One more point below all meetings opens them, and is a meeting itself.
	below := append(slices.Clone(parents), odd)
	checkWay(t, below, 0, many, []int{many + 1}, []int{0, 1, many + 1, many - 1, many})
	checkSpread(t, below, 0, []int{many + 1}, numbers(many+1))
	// A row below the first meeting opens it from its far end.
	deep := slices.Concat(parents[:3], samples.RowOfParents(many))
	for point := 3; point < len(deep); point++ {
		deep[point] = []int{point - 1}
	}
	deep[3] = []int{1}
	checkWay(t, deep, 0, 2, []int{len(deep) - 1}, []int{0, 1, 2})
	checkWay(t, deep, 0, 2, nil, nil)
}

// TestStars: one point on all others, and all others on one.
func TestStars(t *testing.T) {
	parents := make([][]int, many)
	parents[many-1] = numbers(many - 1)
	checkSpread(t, parents, 5, nil, []int{5, many - 1})
	checkSpread(t, parents, 5, []int{many - 1}, numbers(many-1))
	checkWay(t, parents, 5, 0, []int{many - 1}, []int{5, many - 1, 0})
	checkWay(t, parents, 5, 0, nil, nil)
	for point := range many - 1 {
		parents[point] = []int{many - 1}
	}
	parents[many-1] = nil
	checkSpread(t, parents, 5, nil, numbers(many))
	checkSpread(t, parents, 5, []int{many - 1}, []int{5})
	checkWay(t, parents, 5, 0, nil, []int{5, many - 1, 0})
}

// TestFull: all on all that come ahead, so that there are more ways than could
// be gone.
func TestFull(t *testing.T) {
	const few = 600
	parents := samples.FullParents(few)
	checkSpread(t, parents, 0, nil, numbers(few))
	checkWay(t, parents, 0, few-1, nil, []int{0, few - 1})
	checkWay(t, parents, 0, few-1, numbers(few - 1)[1:], []int{0, few - 1})
	for point := range few - 1 {
		// Without short cuts: each on the three ahead of it.
		parents[point+1] = parents[point+1][max(0, point-2):]
	}
	want := []int{0}
	for point := (few - 1) % 3; point < few; point += 3 {
		if point > 0 {
			want = append(want, point)
		}
	}
	checkWay(t, parents, 0, few-1, nil, want)
	checkSpread(t, parents, 0, []int{10, 11, 12}, numbers(10))
}

// TestNamedOften: long lists of few points.
func TestNamedOften(t *testing.T) {
	often := slices.Repeat(list("2 0 2"), many)
	if got, e := sep.Reach(p(), slices.Repeat(list("1 3"), many), often); !slices.Equal(got, list("1 3 4")) || e != api.OK {
		t.Errorf("Reach: %v, %v", got, e)
	}
	if got, e := sep.Apart(p(), list("1"), often, list("0")); !got || e != api.OK {
		t.Errorf("Apart: %v, %v", got, e)
	}
	checkWay(t, p(), 1, 4, often, list("1 3 4"))
}
