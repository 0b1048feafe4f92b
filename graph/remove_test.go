package graph_test

import (
	"math/rand"
	"slices"
	"testing"

	"credence/api"
	"credence/graph"
)

// 15.5: Fill, Remove. What Fill tells is looked at wherever two graphs are held
// against each other.

// checkRemove takes a point out of a graph and of the judge's, and holds what
// is told and what is left against each other.
func checkRemove(t *testing.T, g *graph.Graph, p plain, a int) {
	t.Helper()
	before := p.Edges()
	clique := append(p.Near(a), a)
	slices.Sort(clique)
	want := p.Wanting(a)
	p.Remove(a)
	got, put := g.Remove(a)
	if !slices.Equal(got, clique) || !slices.Equal(put, want) {
		t.Fatalf("%v: Remove(%d): %v, %v, want %v, %v", before, a, got, put, clique, want)
	}
	checkSame(t, g, p)
}

// TestExamplesOfRemove: the chapter's rows.
func TestExamplesOfRemove(t *testing.T) {
	g := ring(t)
	if g.Fill(0) != 1 || g.Fill(4) != 0 {
		t.Errorf("Fill: %d, %d", g.Fill(0), g.Fill(4))
	}
	clique, put := g.Remove(0)
	if !slices.Equal(clique, list("0 1 3")) || !slices.Equal(put, edges("1-3")) {
		t.Errorf("Remove(0): %v, %v", clique, put)
	}
	if !slices.Equal(told(g), edges("1-2 1-3 2-3")) || !g.Chordal() || !alike(g.Pieces(), hung("0 | 1 2 3 | 4")) {
		t.Errorf("then: %v, %v", told(g), g.Pieces())
	}
	if clique, put := g.Remove(-1); len(clique)+len(put) > 0 {
		t.Errorf("Remove(-1): %v, %v", clique, put)
	}
	if clique, put := g.Remove(4); !slices.Equal(clique, list("4")) || len(put) > 0 {
		t.Errorf("Remove(4): %v, %v", clique, put)
	}
}

// TestFill: edges of a point to others than its neighbours count for nothing.
func TestFill(t *testing.T) {
	for text, want := range map[string]int{
		"": 0, "0-1": 0, "0-1 1-2": 0, "0-1 0-2": 1, "0-1 0-2 1-2": 0, "0-1 0-2 0-3": 3, "0-1 0-2 0-3 1-3": 2, "0-1 0-2 0-3 0-4 0-5": 10, "0-1 0-2 1-4 2-4": 1, "0-1 0-5 1-3 3-5 1-4 4-5": 1, "1-2 2-3": 0,
	} {
		if got := made(t, 6, edges(text)).Fill(0); got != want {
			t.Errorf("%s: Fill(0): %d, want %d", text, got, want)
		}
	}
}

// TestRemoveStrangers: nothing is done.
func TestRemoveStrangers(t *testing.T) {
	for _, p := range []plain{bare(0), bare(1), unfolded(4, 41), unfolded(5, 1023), unfolded(6, 21845)} {
		g := graphOf(t, p)
		for _, a := range strangers(len(p)) {
			if clique, put := g.Remove(a); len(clique)+len(put) > 0 || g.Fill(a) != 0 {
				t.Errorf("%d points: Remove(%d): %v, %v", len(p), a, clique, put)
			}
		}
		checkSame(t, g, p)
	}
}

// TestSmallRemove: each point out of all graphs of up to five, and each again:
// it stays a point, which has no neighbours any more, but may be joined.
func TestSmallRemove(t *testing.T) {
	for p := range small(5) {
		for a := range p {
			q := p.Clone()
			g := graphOf(t, q)
			checkRemove(t, g, q, a)
			checkRemove(t, g, q, a)
			if b := (a + 1) % len(p); b != a {
				q.Set(a, b, true)
				if !g.Join(a, b) {
					t.Fatalf("%v: %d was taken out, and can't be joined", p.Edges(), a)
				}
				checkRemove(t, g, q, b)
			}
		}
	}
}

// TestDrawnRemove: more points, taken out one behind the other, some twice, with
// edges that are put in between.
func TestDrawnRemove(t *testing.T) {
	source := rand.New(rand.NewSource(155))
	for i := range 80 {
		p := drawn(source, 1+source.Intn(70), 1+i%40)
		g := graphOf(t, p)
		for range min(len(p), 10) {
			checkRemove(t, g, p, source.Intn(len(p)))
			a, b := source.Intn(len(p)), source.Intn(len(p))
			if a != b {
				g.Join(a, b)
				p.Set(a, b, true)
			}
		}
	}
}

// TestGreatestRemove: the middle of a star, whose edges become all that there
// can be; and then all others.
func TestGreatestRemove(t *testing.T) {
	const middle = 700
	g := made(t, api.MaxVars, nil)
	var rays []int
	for a := range api.MaxVars {
		if g.Join(a, middle) {
			rays = append(rays, a)
		}
	}
	var want []api.Edge
	for i, a := range rays {
		for _, b := range rays[i+1:] {
			want = append(want, api.Edge{From: a, To: b})
		}
	}
	if got := g.Fill(middle); got != len(want) {
		t.Errorf("Fill of the middle: %d, want %d", got, len(want))
	}
	clique, put := g.Remove(middle)
	if !slices.Equal(clique, numbers(api.MaxVars)) || !slices.Equal(put, want) || !slices.Equal(told(g), want) {
		t.Fatalf("the middle: %d points, %d edges", len(clique), len(put))
	}
	for i, a := range rays {
		if clique, put := g.Remove(a); !slices.Equal(clique, rays[i:]) || len(put) > 0 {
			t.Fatalf("%d: %d points, %d edges", a, len(clique), len(put))
		}
	}
	if len(told(g)) > 0 || len(g.Pieces()) != api.MaxVars {
		t.Errorf("edges are left: %v", told(g))
	}
}
