package samples_test

import (
	"math/rand"
	"slices"
	"testing"

	"credence/api"
	"credence/samples"
)

// TestPlain: what a ring and a point beside it tell, and what becomes of them.
func TestPlain(t *testing.T) {
	p := samples.PlainGraph(5, samples.Edges("0-1 3-0 1-2 2-3"))
	q := p.Clone()
	if !slices.Equal(p.Edges(), samples.Edges("0-1 0-3 1-2 2-3")) || !slices.Equal(p.Near(0), []int{1, 3}) {
		t.Errorf("the edges are %v", p.Edges())
	}
	for _, a := range []int{4, -1, 5, 1 << 32} {
		if len(p.Near(a)) > 0 || len(p.Wanting(a)) > 0 {
			t.Errorf("%d has neighbours", a)
		}
	}
	if got := p.Wanting(0); !slices.Equal(got, samples.Edges("1-3")) {
		t.Errorf("Wanting(0): %v", got)
	}
	p.Remove(0)
	if !slices.Equal(p.Edges(), samples.Edges("1-2 1-3 2-3")) || len(p.Wanting(1)) > 0 || len(p) != 5 {
		t.Errorf("without 0: %v", p.Edges())
	}
	p.Set(3, 1, false)
	if !slices.Equal(p.Edges(), samples.Edges("1-2 2-3")) || !slices.Equal(q.Edges(), samples.Edges("0-1 0-3 1-2 2-3")) {
		t.Errorf("without 1-3: %v; the other one: %v", p.Edges(), q.Edges())
	}
}

// TestEdges: words with a line in the middle.
func TestEdges(t *testing.T) {
	if got := samples.Edges(" 0-12\t3-1 "); !slices.Equal(got, []api.Edge{{From: 0, To: 12}, {From: 3, To: 1}}) || len(samples.Edges("")) != 0 {
		t.Errorf("Edges: %v", got)
	}
}

// TestSmallGraphs: each graph once, of all sizes; it may be stopped.
func TestSmallGraphs(t *testing.T) {
	var counts [5]int
	var got []samples.Plain
	for p := range samples.SmallGraphs(4) {
		same := func(q samples.Plain) bool { return len(p) == len(q) && slices.Equal(p.Edges(), q.Edges()) }
		if slices.ContainsFunc(got, same) {
			t.Fatalf("%v came twice", p.Edges())
		}
		got = append(got, p)
		counts[len(p)]++
	}
	if counts != [5]int{1, 1, 2, 8, 64} {
		t.Errorf("%v of each size", counts)
	}
	for range samples.SmallGraphs(10) {
		break
	}
}

// TestDrawnGraph: about as many edges as were asked for.
func TestDrawnGraph(t *testing.T) {
	source := rand.New(rand.NewSource(3))
	for _, percent := range []int{0, 30, 100} {
		want := 4950 * percent / 100
		if got := len(samples.DrawnGraph(source, 100, percent).Edges()); got < want-300 || got > want+300 || percent == 0 && got > 0 {
			t.Errorf("%d of a hundred of 4950: %d", percent, got)
		}
	}
}
