package dag_test

import (
	"math/rand"
	"slices"
	"testing"

	"credence/api"
	"credence/dag"
)

// 14.3: Order.

// checkOrder holds Order against its row.
func checkOrder(t *testing.T, text, want string, code api.Errno) {
	t.Helper()
	if got, e := dag.Order(hung(text)); !slices.Equal(got, list(want)) || e != code {
		t.Errorf("Order(%s): %v, %v, want %s, %v", text, got, e, want, code)
	}
}

// TestExamplesOfOrder: the chapter's rows.
func TestExamplesOfOrder(t *testing.T) {
	if got, e := dag.Order(p()); !slices.Equal(got, list("0 1 2 3")) || e != api.OK {
		t.Errorf("Order(P): %v, %v", got, e)
	}
	checkOrder(t, "2 | |", "1 2 0", api.OK)
}

func TestOrders(t *testing.T) {
	for _, c := range []struct{ text, want string }{
		{"", "0"}, {"|", "0 1"}, {"1 |", "1 0"}, {"1 | 2 | 3 |", "3 2 1 0"}, {"3 | | 1 |", "1 2 3 0"},
		// What has just been freed comes ahead of greater points that waited.
		{"2 | | | ", "1 2 0 3"}, {"1 | | | 0", "1 0 2 3"}, {"3 | 3 | | | 2", "2 3 0 1 4"}, {"| 3 | 3 |", "0 3 1 2"},
		// A point waits for the last one of its parents.
		{"1 2 3 | | |", "1 2 3 0"}, {"3 2 1 | | |", "1 2 3 0"}, {"4 | 4 0 | 1 0 | 2 1 |", "4 0 1 2 3"},
	} {
		checkOrder(t, c.text, c.want, api.OK)
	}
	for _, none := range [][][]int{nil, {}} {
		if got, e := dag.Order(none); len(got) != 0 || e != api.OK {
			t.Errorf("Order of none: %v, %v", got, e)
		}
	}
}

// TestNoOrder: Check's error, and nothing beside it.
func TestNoOrder(t *testing.T) {
	checkOrder(t, "| 2 |", "0 2 1", api.OK)
	checkOrder(t, "| 3 |", "", api.ErrRange)
	checkOrder(t, "| -1 |", "", api.ErrRange)
	checkOrder(t, "| 2 2 |", "", api.ErrTwice)
	checkOrder(t, "| 2 | 1", "", api.ErrCycle)
	checkOrder(t, "| | 2", "", api.ErrCycle)
}

// TestDrawnOrders: more points, hanging on one another without any order.
func TestDrawnOrders(t *testing.T) {
	source := rand.New(rand.NewSource(143))
	for i := range 3000 {
		parents := drawn(source, 1+i%25, 1+i%4, false)
		if e := dag.Check(parents); e != api.OK {
			t.Fatalf("Check(%v): %v", parents, e)
		}
		if got, e := dag.Order(parents); !slices.Equal(got, inOrder(parents)) || e != api.OK {
			t.Fatalf("Order(%v): %v, %v", parents, got, e)
		}
	}
}

// TestLongOrders: many points, in a row or all on one, are no burden.
func TestLongOrders(t *testing.T) {
	const many = 200000
	falling := numbers(many)
	slices.Reverse(falling)
	if got, e := dag.Order(chain(many)); !slices.Equal(got, falling) || e != api.OK {
		t.Errorf("a chain: %d points, %v", len(got), e)
	}
	star := make([][]int, many)
	for point := range many - 1 {
		star[point] = []int{many - 1}
	}
	want := append([]int{many - 1}, numbers(many-1)...)
	if got, e := dag.Order(star); !slices.Equal(got, want) || e != api.OK {
		t.Errorf("all on the last one: %d points, %v", len(got), e)
	}
	all := make([][]int, many)
	all[0] = falling[:many-1]
	want = append(numbers(many)[1:], 0)
	if got, e := dag.Order(all); !slices.Equal(got, want) || e != api.OK {
		t.Errorf("the first one on all: %d points, %v", len(got), e)
	}
}
