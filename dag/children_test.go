package dag_test

import (
	"math/rand"
	"slices"
	"testing"

	"credence/api"
	"credence/dag"
)

// 14.5: Children, Edges.

// TestExamplesOfChildren: the chapter's row.
func TestExamplesOfChildren(t *testing.T) {
	if got, e := dag.Children(p()); !alike(got, hung("1 2 | 3 | 3 |")) || e != api.OK {
		t.Errorf("Children(P): %v, %v", got, e)
	}
	want := []api.Edge{{From: 0, To: 1}, {From: 0, To: 2}, {From: 2, To: 3}, {From: 1, To: 3}}
	if got, e := dag.Edges(p()); !slices.Equal(got, want) || e != api.OK {
		t.Errorf("Edges(P): %v, %v", got, e)
	}
}

// TestChildren: rising, whatever the order of parents; a list for each point.
func TestChildren(t *testing.T) {
	for _, c := range []struct{ text, want string }{
		{"", ""}, {"| |", "| |"}, {"3 2 1 | 3 2 | 3 |", "| 0 | 0 1 | 0 1 2"}, {"1 | | 1 | 1", "| 0 2 3 | |"}, {"4 | 4 | 4 | 4 |", "| | | | 0 1 2 3"},
	} {
		if got, e := dag.Children(hung(c.text)); !alike(got, hung(c.want)) || e != api.OK {
			t.Errorf("Children(%s): %v, %v, want %s", c.text, got, e, c.want)
		}
	}
	for _, none := range [][][]int{nil, {}} {
		if got, e := dag.Children(none); len(got) != 0 || e != api.OK {
			t.Errorf("Children of none: %v, %v", got, e)
		}
		if got, e := dag.Edges(none); len(got) != 0 || e != api.OK {
			t.Errorf("Edges of none: %v, %v", got, e)
		}
	}
}

// TestEdges: point by point, for each in the order of its parents.
func TestEdges(t *testing.T) {
	want := []api.Edge{{From: 3, To: 0}, {From: 1, To: 0}, {From: 2, To: 0}, {From: 3, To: 2}, {From: 1, To: 2}}
	if got, e := dag.Edges(hung("3 1 2 | | 3 1 |")); !slices.Equal(got, want) || e != api.OK {
		t.Errorf("Edges: %v, %v, want %v", got, e, want)
	}
}

// TestNoChildren: Check's error, and nothing beside it.
func TestNoChildren(t *testing.T) {
	for text, want := range map[string]api.Errno{"| 3 | 0": api.ErrRange, "| 0 -1": api.ErrRange, "| 0 | 0 1 0": api.ErrTwice, "| 0 2 | 1": api.ErrCycle, "| 1 0": api.ErrCycle} {
		if got, e := dag.Children(hung(text)); len(got) != 0 || e != want {
			t.Errorf("Children(%s): %v, %v, want %v", text, got, e, want)
		}
		if got, e := dag.Edges(hung(text)); len(got) != 0 || e != want {
			t.Errorf("Edges(%s): %v, %v, want %v", text, got, e, want)
		}
	}
}

// TestDrawnChildren: more points.
func TestDrawnChildren(t *testing.T) {
	source := rand.New(rand.NewSource(145))
	for i := range 2000 {
		parents := drawn(source, 1+i%30, 1+i%4, false)
		if got, e := dag.Children(parents); !alike(got, asChildren(parents)) || e != api.OK {
			t.Fatalf("Children(%v): %v, %v", parents, got, e)
		}
		if got, e := dag.Edges(parents); !slices.Equal(got, asEdges(parents)) || e != api.OK {
			t.Fatalf("Edges(%v): %v, %v", parents, got, e)
		}
	}
}
