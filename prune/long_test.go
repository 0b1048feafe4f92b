package prune_test

import (
	"slices"
	"testing"

	"credence/api"
	"credence/prune"
	"credence/samples"
)

// Many points are no burden, in whatever way they hang together.

const many = 40000

// checkLong holds both calls against what they should tell: what is barren, and
// what is kept with apart.
func checkLong(t *testing.T, parents [][]int, asked, given, barren, apart []int) {
	t.Helper()
	if got, e := prune.Barren(parents, asked, given); !slices.Equal(got, barren) || e != api.OK {
		t.Errorf("Barren: %d points, %v, want %d", len(got), e, len(barren))
	}
	if got := kept(t, parents, asked, given, ways{apart: true}); !slices.Equal(got, apart) {
		t.Errorf("Kept, apart: %d points, want %d", len(got), len(apart))
	}
	if got := kept(t, parents, asked, given, ways{true, true}); !slices.Equal(got, apart) {
		t.Errorf("Kept, both: %d points, want %d", len(got), len(apart))
	}
	if got := kept(t, parents, asked, given, ways{barren: true}); len(got)+len(barren) != len(parents) {
		t.Errorf("Kept, barren: %d points", len(got))
	}
}

// TestRow: each point on the next one.
func TestRow(t *testing.T) {
	row := samples.RowOfParents(many)
	const half = many / 2
	checkLong(t, row, []int{half}, nil, numbers(half), numbers(many)[half:])
	checkLong(t, row, []int{half}, []int{half + 2}, numbers(half), numbers(half + 2)[half:])
	checkLong(t, row, []int{half}, []int{3}, numbers(3), numbers(many)[3:])
	checkLong(t, row, []int{0}, []int{half}, nil, numbers(half))
	checkLong(t, row, []int{many - 1}, []int{0}, nil, numbers(many))
}

// TestStars: one point on all others, and all others on one.
func TestStars(t *testing.T) {
	parents := make([][]int, many)
	parents[many-1] = numbers(many - 1)
	checkLong(t, parents, []int{0}, nil, numbers(many)[1:], []int{0})
	checkLong(t, parents, []int{0}, []int{many - 1}, nil, numbers(many))
	checkLong(t, parents, []int{0}, numbers(many)[1:], nil, []int{0, many - 1})
	for point := range many - 1 {
		parents[point] = []int{many - 1}
	}
	parents[many-1] = nil
	checkLong(t, parents, []int{0}, nil, numbers(many - 1)[1:], []int{0, many - 1})
	checkLong(t, parents, []int{0}, numbers(many - 1)[1:], nil, numbers(many))
	checkLong(t, parents, []int{0}, numbers(many)[1:], nil, []int{0})
}

// TestFull: all on all that come ahead, so that there are more ways than could
// be gone.
func TestFull(t *testing.T) {
	const few = 600
	parents := samples.FullParents(few)
	checkLong(t, parents, []int{few / 2}, nil, numbers(few)[few/2+1:], numbers(few/2+1))
	checkLong(t, parents, []int{0}, []int{few - 1}, nil, numbers(few))
	checkLong(t, parents, []int{few - 1}, numbers(few-1), nil, []int{few - 1})
}

// TestNamedOften: long lists of few points.
func TestNamedOften(t *testing.T) {
	checkLong(t, p(), slices.Repeat(list("2 1"), many), slices.Repeat(list("1"), many), list("3 4"), list("2"))
}
