package graph_test

import (
	"math/rand"
	"slices"
	"testing"

	"credence/api"
	"credence/graph"
)

// 15.1: New, Len. 15.2: Join, Has, Near.

// TestExamplesOfNew: the chapter's row.
func TestExamplesOfNew(t *testing.T) {
	for n, want := range map[int]api.Errno{-1: api.ErrRange, 1025: api.ErrRange, 0: api.OK} {
		if g, e := graph.New(n); e != want || (g == nil) != (e != api.OK) {
			t.Errorf("New(%d): %v, %v", n, g, e)
		}
	}
}

// TestNew: no edges, whatever the length.
func TestNew(t *testing.T) {
	for _, n := range []int{0, 1, 2, 3, 63, 64, 65, 1000, 1023, 1024} {
		g, e := graph.New(n)
		if e != api.OK {
			t.Fatalf("New(%d): %v", n, e)
		}
		if len(told(g)) > 0 || g.Len() != n || !g.Chordal() || len(g.Pieces()) != n {
			t.Errorf("New(%d): %d points, the edges %v, the pieces %v", n, g.Len(), told(g), g.Pieces())
		}
		for _, a := range numbers(n) {
			if len(g.Near(a)) > 0 || g.Fill(a) != 0 || g.Has(a, (a+1)%n) {
				t.Fatalf("New(%d): %d has neighbours", n, a)
			}
		}
	}
	for _, n := range []int{-1 << 63, -1 << 32, -1024, -2, 1026, 2048, 1 << 31, 1 << 32, 1<<32 + 5, 1<<63 - 1} {
		if g, e := graph.New(n); g != nil || e != api.ErrRange {
			t.Errorf("New(%d): %v, %v", n, g, e)
		}
	}
}

// TestExamplesOfJoin: the chapter's rows.
func TestExamplesOfJoin(t *testing.T) {
	g := ring(t)
	if g.Join(0, 1) || g.Join(2, 2) || g.Join(0, 5) || !g.Has(3, 0) || g.Has(0, 2) {
		t.Error("Join or Has says otherwise")
	}
	if !slices.Equal(g.Near(0), list("1 3")) || len(g.Near(4)) != 0 || len(g.Near(9)) != 0 {
		t.Errorf("Near: %v, %v, %v", g.Near(0), g.Near(4), g.Near(9))
	}
	if got := told(g); !slices.Equal(got, edges("0-1 0-3 1-2 2-3")) {
		t.Errorf("Edges: %v", got)
	}
}

// TestJoin: an edge is put in once, whichever way round it is asked for.
func TestJoin(t *testing.T) {
	for a := range 4 {
		for b := range 4 {
			g := made(t, 4, nil)
			if got := g.Join(a, b); got != (a != b) {
				t.Fatalf("Join(%d, %d): %v", a, b, got)
			}
			if g.Join(a, b) || g.Join(b, a) {
				t.Errorf("%d and %d were joined twice", a, b)
			}
			p := bare(4)
			p.Set(a, b, a != b)
			checkSame(t, g, p)
		}
	}
}

// TestJoinStrangers: what is no point has no edges, and nothing is changed.
func TestJoinStrangers(t *testing.T) {
	for _, p := range []plain{bare(0), bare(1), unfolded(3, 5), unfolded(5, 1023), bare(64)} {
		g := graphOf(t, p)
		for _, a := range strangers(len(p)) {
			if g.Join(a, a) || g.Has(a, a) || len(g.Near(a)) > 0 || g.Fill(a) != 0 {
				t.Errorf("%d points: %d is one", len(p), a)
			}
			for b := range p {
				if g.Join(a, b) || g.Join(b, a) || g.Has(a, b) || g.Has(b, a) {
					t.Errorf("%d points: %d is a neighbour of %d", len(p), a, b)
				}
			}
			for _, b := range strangers(len(p)) {
				if g.Join(a, b) || g.Has(a, b) {
					t.Errorf("%d points: %d and %d are neighbours", len(p), a, b)
				}
			}
		}
		checkSame(t, g, p)
	}
}

// TestSmallGraphs: all graphs of up to five points.
func TestSmallGraphs(t *testing.T) {
	for p := range small(5) {
		checkSame(t, graphOf(t, p), p)
	}
}

// TestDrawnGraphs: more points, joined in any order; some pairs come again.
func TestDrawnGraphs(t *testing.T) {
	source := rand.New(rand.NewSource(152))
	for i := range 60 {
		p := bare(2 + source.Intn(140))
		g := made(t, len(p), nil)
		for range len(p) * (1 + i%8) {
			a, b := source.Intn(len(p)), source.Intn(len(p))
			if got := g.Join(a, b); got != (a != b && !p[a][b]) {
				t.Fatalf("%v: Join(%d, %d): %v", p.Edges(), a, b, got)
			}
			p.Set(a, b, a != b)
		}
		checkSame(t, g, p)
	}
}

// TestGreatest: as many points as may be, with edges at both ends and all
// around the places at which words of memory end.
func TestGreatest(t *testing.T) {
	p := bare(api.MaxVars)
	some := list("0 1 7 8 31 32 62 63 64 65 127 128 255 256 511 512 960 1022 1023")
	for i, a := range some {
		for _, b := range some[:i] {
			p.Set(a, b, (a+b)%3 > 0)
		}
	}
	checkSame(t, graphOf(t, p), p)
	g := made(t, api.MaxVars, nil)
	for a := range api.MaxVars {
		for b := range a {
			g.Join(a, b)
		}
	}
	for a := range api.MaxVars {
		if want := slices.Delete(numbers(api.MaxVars), a, a+1); !slices.Equal(g.Near(a), want) || g.Fill(a) != 0 {
			t.Fatalf("all with all: Near(%d) has %d", a, len(g.Near(a)))
		}
	}
	if count := len(told(g)); count != api.MaxVars*(api.MaxVars-1)/2 || !g.Chordal() || !alike(g.Pieces(), [][]int{numbers(api.MaxVars)}) {
		t.Errorf("all with all: %d edges", count)
	}
}
