package graph_test

import (
	"slices"
	"testing"

	"credence/api"
)

// 15.2: Edges, R9. Their order is looked at wherever two graphs are held
// against each other.

// TestStopped: stopped anywhere it gave what it gives up to there.
func TestStopped(t *testing.T) {
	want := edges("0-1 0-3 1-2 2-3")
	for count := 1; count <= len(want); count++ {
		var got []api.Edge
		for edge := range ring(t).Edges() {
			got = append(got, edge)
			if len(got) == count {
				break
			}
		}
		if !slices.Equal(got, want[:count]) {
			t.Errorf("stopped behind %d: %v", count, got)
		}
	}
}

// TestAgain: it begins at the start each time, whatever became of it before,
// also while it is being gone over.
func TestAgain(t *testing.T) {
	want := edges("0-1 0-3 1-2 2-3")
	all := ring(t).Edges()
	for range all {
		break
	}
	times := 0
	for outer := range all {
		if outer != want[times] || !slices.Equal(slices.Collect(all), want) {
			t.Fatalf("%v came as number %d", outer, times)
		}
		times++
	}
	if times != len(want) || !slices.Equal(slices.Collect(all), want) {
		t.Errorf("gone over %d", times)
	}
}

// TestAsItWas: what is gone over is as it was when the iterator was given.
func TestAsItWas(t *testing.T) {
	g := ring(t)
	before := g.Edges()
	g.Join(0, 4)
	between := g.Edges()
	g.Remove(0)
	for i, c := range []struct {
		got  []api.Edge
		want string
	}{
		{slices.Collect(before), "0-1 0-3 1-2 2-3"},
		{slices.Collect(between), "0-1 0-3 0-4 1-2 2-3"},
		{slices.Collect(g.Edges()), "1-2 1-3 1-4 2-3 3-4"},
		{slices.Collect(before), "0-1 0-3 1-2 2-3"},
	} {
		if !slices.Equal(c.got, edges(c.want)) {
			t.Errorf("%d: %v, want %s", i, c.got, c.want)
		}
	}
}

// TestMeanwhile: the graph may be changed at each edge.
func TestMeanwhile(t *testing.T) {
	g := ring(t)
	var got []api.Edge
	for edge := range g.Edges() {
		got = append(got, edge)
		g.Remove(edge.From)
		g.Join(edge.To, 4)
	}
	if !slices.Equal(got, edges("0-1 0-3 1-2 2-3")) {
		t.Errorf("gone over: %v", got)
	}
	p := bare(5)
	for _, edge := range got {
		p.Set(edge.From, edge.To, true)
	}
	for _, edge := range got {
		p.Remove(edge.From)
		p.Set(edge.To, 4, true)
	}
	checkSame(t, g, p)
}

// TestOverNothing: an iterator is never nil.
func TestOverNothing(t *testing.T) {
	for count := range 4 {
		g := made(t, count, nil)
		if g.Edges() == nil {
			t.Fatalf("%d points: the iterator is nil", count)
		}
		for edge := range g.Edges() {
			t.Errorf("%d points: %v", count, edge)
		}
	}
}
