package sep_test

import (
	"math/rand"
	"slices"
	"testing"

	"credence/api"
	"credence/samples"
	"credence/sep"
)

// 16.5: Blanket.

// checkBlanket holds Blanket against its row.
func checkBlanket(t *testing.T, parents string, a int, want string) {
	t.Helper()
	if got, e := sep.Blanket(hung(parents), a); !slices.Equal(got, list(want)) || e != api.OK {
		t.Errorf("Blanket(%s, %d): %v, %v, want %s", parents, a, got, e, want)
	}
}

// TestExamplesOfBlanket: the chapter's row.
func TestExamplesOfBlanket(t *testing.T) {
	const p = "| 0 | 0 | 1 2 | 3"
	checkBlanket(t, p, 1, "0 2 3")
	checkBlanket(t, p, 3, "1 2 4")
	checkBlanket(t, p, 4, "3")
}

func TestBlanket(t *testing.T) {
	for _, c := range []struct {
		parents string
		a       int
		want    string
	}{
		// Alone; parents; children; parents of children.
		{"", 0, ""}, {"| |", 1, ""}, {"2 3 1 | | |", 0, "1 2 3"}, {"| 0 | 0 | 0", 0, "1 2 3"}, {"| | 3 0 1 |", 0, "1 2 3"}, {"| | 3 0 1 |", 2, "0 1 3"},
		// Parents of parents, children of children, other children of parents,
		// parents of children's children are none of them.
		{"| 0 | 1 | 2", 0, "1"}, {"| 0 | 1 | 2", 3, "2"}, {"1 | | 1", 0, "1"}, {"| 0 | 1 3 |", 0, "1"},
		// What is there by more than one way is told once.
		{"| 0 | 1 0 | 0 2 1", 0, "1 2 3"}, {"| 0 | 1 0 | 0 2 1", 1, "0 2 3"}, {"| 3 0 | 0 3 |", 3, "0 1 2"},
	} {
		checkBlanket(t, c.parents, c.a, c.want)
	}
}

// TestBlankets: all parents of up to four points, and drawn ones.
func TestBlankets(t *testing.T) {
	for parents := range small(4) {
		checkBlankets(t, parents)
	}
	source := rand.New(rand.NewSource(165))
	for i := range 150 {
		checkBlankets(t, drawn(source, 5+i%30, 1+i%5, false))
	}
}

// TestGreatBlankets: many parents, many children, one child's many parents.
func TestGreatBlankets(t *testing.T) {
	const many = 200000
	star := make([][]int, many)
	star[0] = numbers(many)[1:]
	if got, e := sep.Blanket(star, 0); !slices.Equal(got, numbers(many)[1:]) || e != api.OK {
		t.Errorf("many parents: %d points, %v", len(got), e)
	}
	if got, e := sep.Blanket(star, many-1); !slices.Equal(got, numbers(many-1)) || e != api.OK {
		t.Errorf("a child's many parents: %d points, %v", len(got), e)
	}
	for point := range star {
		star[point] = nil
		if point > 0 {
			star[point] = []int{0}
		}
	}
	if got, e := sep.Blanket(star, 0); !slices.Equal(got, numbers(many)[1:]) || e != api.OK {
		t.Errorf("many children: %d points, %v", len(got), e)
	}
	// All that come ahead: each is there by many ways.
	const few = 1500
	for _, a := range []int{0, few / 2, few - 1} {
		want := slices.Delete(numbers(few), a, a+1)
		if got, e := sep.Blanket(samples.FullParents(few), a); !slices.Equal(got, want) || e != api.OK {
			t.Errorf("all on all ahead: %d points, %v", len(got), e)
		}
	}
}
