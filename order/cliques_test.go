package order_test

import (
	"math/rand"
	"slices"
	"testing"

	"credence/api"
	"credence/order"
)

// 18.4: Cliques, Width.

// TestExamplesOfCliques: the chapter's rows.
func TestExamplesOfCliques(t *testing.T) {
	g := ring(t)
	if got := cliquesOf(t, g, list("4 0 1 2 3")); !alike(got, hung("3 4 | 0 1 3 | 1 2 3 | 2 3 | 3")) {
		t.Errorf("Cliques(g, 4 0 1 2 3): %v", got)
	}
	if got, e := order.Width(g, list("4 0 1 2 3")); got != 2 || e != api.OK {
		t.Errorf("Width(g, 4 0 1 2 3): %d, %v", got, e)
	}
	if got, e := order.Width(g, nil); got != 0 || e != api.OK {
		t.Errorf("Width(g, none): %d, %v", got, e)
	}
	if got := cliquesOf(t, g, list("3")); !alike(got, hung("0 2 3 4")) {
		t.Errorf("Cliques(g, 3): %v", got)
	}
	if !slices.Equal(told(g), edges("0-1 0-3 1-2 2-3 3-4")) {
		t.Errorf("the graph became %v", told(g))
	}
}

func TestCliques(t *testing.T) {
	for _, c := range []struct {
		edges, order, want string
		width              int
	}{
		{"", "3", "3", 0}, {"", "3 1", "3 | 1", 0}, {"0-1", "2", "2", 0}, {"0-1", "1", "0 1", 1}, {"0-1", "1 0", "0 1 | 0", 1},
		// A star from its middle, and from its rays.
		{"0-1 0-2 0-3", "0 1 2 3", "0 1 2 3 | 1 2 3 | 2 3 | 3", 3}, {"0-1 0-2 0-3", "3 2 1 0", "0 3 | 0 2 | 0 1 | 0", 1}, {"0-1 0-2 0-3", "3 0", "0 3 | 0 1 2", 2},
		// What was put in counts; the largest may come last.
		{"0-1 0-2 1-3 2-4 1-5", "0 1", "0 1 2 | 1 2 3 5", 3}, {"0-1 2-3 3-4 3-5", "0 1 3", "0 1 | 1 | 2 3 4 5", 3},
	} {
		g := made(t, 6, edges(c.edges))
		if got := cliquesOf(t, g, list(c.order)); !alike(got, hung(c.want)) {
			t.Errorf("%s: Cliques(%s): %v, want %s", c.edges, c.order, got, c.want)
		}
		if got, e := order.Width(g, list(c.order)); got != c.width || e != api.OK {
			t.Errorf("%s: Width(%s): %d, %v, want %d", c.edges, c.order, got, e, c.width)
		}
	}
	for _, none := range [][]int{nil, {}} {
		if got := cliquesOf(t, ring(t), none); len(got) > 0 {
			t.Errorf("Cliques(g, none): %v", got)
		}
	}
	bare := made(t, 0, nil)
	if got, e := order.Width(bare, nil); len(cliquesOf(t, bare, nil)) > 0 || got != 0 || e != api.OK {
		t.Errorf("of no points: width %d, %v", got, e)
	}
}

// TestSmallCliques: all graphs of up to four points, all orders of some points.
func TestSmallCliques(t *testing.T) {
	for p := range small(4) {
		for _, points := range choices(len(p)) {
			for _, l := range orders(points) {
				checkCliques(t, p, l)
			}
		}
	}
}

// TestDrawnCliques: more points, all of them or some.
func TestDrawnCliques(t *testing.T) {
	source := rand.New(rand.NewSource(184))
	for i := range 300 {
		p := drawn(source, 1+source.Intn(70), 1+i%30)
		l := source.Perm(len(p))
		checkCliques(t, p, l[:source.Intn(len(l)+1)])
		checkCliques(t, p, l)
	}
}

// TestGreatestCliques: a star of as many points as may be, from its middle.
func TestGreatestCliques(t *testing.T) {
	const middle = 700
	g := made(t, api.MaxVars, nil)
	for a := range api.MaxVars {
		g.Join(a, middle)
	}
	rays := slices.Delete(numbers(api.MaxVars), middle, middle+1)
	points := append([]int{middle}, rays...)
	got := cliquesOf(t, g, points)
	if !slices.Equal(got[0], numbers(api.MaxVars)) {
		t.Errorf("the middle: %v", got[0])
	}
	for i, clique := range got[1:] {
		if !slices.Equal(clique, rays[i:]) {
			t.Fatalf("%d: %v", rays[i], clique)
		}
	}
	if got, e := order.Width(g, points); got != api.MaxVars-1 || e != api.OK {
		t.Errorf("Width: %d, %v", got, e)
	}
	if got, e := order.Width(g, append(rays, middle)); got != 1 || e != api.OK {
		t.Errorf("Width from the rays: %d, %v", got, e)
	}
}
