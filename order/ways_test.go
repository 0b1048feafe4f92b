package order_test

import (
	"math/rand"
	"slices"
	"testing"

	"credence/api"
	"credence/graph"
	"credence/order"
	"credence/samples"
)

// 18.2: Fill, Degree.

// TestExamplesOfWays: the chapter's rows.
func TestExamplesOfWays(t *testing.T) {
	g := ring(t)
	for _, w := range ways() {
		if got := w.taken(t, g, list("0 1 2 3 4")); !slices.Equal(got, list("4 0 1 2 3")) {
			t.Errorf("%s(g, 0 1 2 3 4): %v", w.name, got)
		}
	}
	if got, e := order.Degree(g, list("3 1")); !slices.Equal(got, list("1 3")) || e != api.OK {
		t.Errorf("Degree(g, 3 1): %v, %v", got, e)
	}
	if got, e := order.Fill(g, nil); len(got) > 0 || e != api.OK {
		t.Errorf("Fill(g, none): %v, %v", got, e)
	}
	if got, e := order.Fill(nil, nil); len(got) > 0 || e != api.ErrNil {
		t.Errorf("Fill(nil, none): %v, %v", got, e)
	}
	if !slices.Equal(told(g), edges("0-1 0-3 1-2 2-3 3-4")) {
		t.Errorf("the graph became %v", told(g))
	}
}

func TestWays(t *testing.T) {
	for _, c := range []struct{ edges, points, fill, degree string }{
		{"", "", "", ""}, {"", "7 3 5", "3 5 7", "3 5 7"}, {"0-7", "7 0", "0 7", "0 7"},
		// A chain from its ends, a star from its rays: the middle goes as soon as
		// it is as light as the last ones.
		{"0-3 3-1 1-2", "0 1 2 3", "0 2 1 3", "0 2 1 3"}, {"0-1 0-2 0-3 0-4", "0 1 2 3 4", "1 2 3 0 4", "1 2 3 0 4"},
		// Four that are all neighbours, and a ring: many neighbours, or none that
		// are apart.
		{"0-1 0-2 0-3 1-2 1-3 2-3 4-5 5-6 6-7 4-7", "0 1 2 3 4 5 6 7", "0 1 2 3 4 5 6 7", "4 5 6 7 0 1 2 3"},
		{"4-5 4-6 4-7 5-6 5-7 6-7 0-1 1-2 2-3 0-3", "0 1 2 3 4 5 6 7", "4 5 6 7 0 1 2 3", "0 1 2 3 4 5 6 7"},
		// What is not taken out counts as a neighbour all the same.
		{"0-3 0-4 1-3", "1 0", "1 0", "1 0"}, {"0-5 0-6 0-7 1-6 1-7 2-5", "0 1", "1 0", "1 0"}, {"0-5 0-6 5-6 1-7 1-3", "1 0", "0 1", "0 1"}, {"0-5 0-6 0-7 5-6 5-7 6-7 1-2 1-3", "1 0", "0 1", "1 0"},
		// Where 0 is taken out 1-2 is put in: 7, which was none of its neighbours,
		// puts in nothing then.
		{"0-1 0-2 1-7 2-7 4-6 5-6", "6 7 0", "0 7 6", "0 6 7"},
		// Where 0 is taken out its neighbour 1 gets more than it loses.
		{"0-1 0-2 0-3 1-4 1-5 4-7 5-7 6-7", "0 1 7", "0 7 1", "0 7 1"},
	} {
		g := made(t, 8, edges(c.edges))
		if got, e := order.Fill(g, list(c.points)); !slices.Equal(got, list(c.fill)) || e != api.OK {
			t.Errorf("%s: Fill(%s): %v, %v, want %s", c.edges, c.points, got, e, c.fill)
		}
		if got, e := order.Degree(g, list(c.points)); !slices.Equal(got, list(c.degree)) || e != api.OK {
			t.Errorf("%s: Degree(%s): %v, %v, want %s", c.edges, c.points, got, e, c.degree)
		}
	}
}

// TestSmallWays: all graphs of up to five points, all that can be taken out.
func TestSmallWays(t *testing.T) {
	for p := range small(5) {
		for _, points := range choices(len(p)) {
			checkWays(t, p, points)
		}
	}
}

// TestSix: all graphs of six points, out of which all are taken.
func TestSix(t *testing.T) {
	for bits := range 1 << 15 {
		checkWays(t, unfolded(6, bits), numbers(6))
	}
}

// TestListedAnyhow: it does not matter in which order points are named.
func TestListedAnyhow(t *testing.T) {
	for bits := 0; bits < 1<<10; bits += 13 {
		p := unfolded(5, bits)
		for _, points := range choices(5) {
			for _, l := range orders(points) {
				checkWays(t, p, l)
			}
		}
	}
}

// TestDrawnWays: more points, few edges and many.
func TestDrawnWays(t *testing.T) {
	source := rand.New(rand.NewSource(182))
	differ := 0
	for i := range 600 {
		p := drawn(source, 2+source.Intn(30), 1+i%60)
		checkWays(t, p, source.Perm(len(p)))
		points := slices.Compact(slices.Sorted(slices.Values(some(source, len(p), i%100))))
		checkWays(t, p, points)
		g := made(t, len(p), p.Edges())
		if !slices.Equal(ways()[0].taken(t, g, points), ways()[1].taken(t, g, points)) {
			differ++
		}
	}
	if differ < 100 {
		t.Errorf("both ways are alike but for %d", differ)
	}
}

// checkSteps goes through what a way answers, of many points: each one must be
// the least of those that weigh least, by what graph itself tells.
func checkSteps(t *testing.T, w way, g *graph.Graph, points []int) {
	t.Helper()
	before := told(g)
	got := w.taken(t, g, points)
	if !slices.Equal(told(g), before) {
		t.Fatalf("%s changed the graph", w.name)
	}
	if e := order.Check(got, points); e != api.OK {
		t.Fatalf("%s: %d of %d points, %v", w.name, len(got), len(points), e)
	}
	rest := g.Among(numbers(g.Len()))
	for at, point := range got {
		weight := w.weigh(rest, point)
		for _, later := range got[at+1:] {
			if other := w.weigh(rest, later); other < weight || other == weight && later < point {
				t.Fatalf("%s: %d weighs %d and goes ahead of %d, which weighs %d", w.name, point, weight, later, other)
			}
		}
		rest.Remove(point)
	}
}

// TestManySteps: some hundred points, all of them and some.
func TestManySteps(t *testing.T) {
	source := rand.New(rand.NewSource(282))
	for i := range 12 {
		p := drawn(source, 100+20*i, 1+i%4)
		g := made(t, len(p), p.Edges())
		for _, w := range ways() {
			checkSteps(t, w, g, source.Perm(len(p)))
			checkSteps(t, w, g, source.Perm(len(p))[:50])
		}
	}
}

// TestMorals: graphs of networks, of as many points as may be.
func TestMorals(t *testing.T) {
	source := rand.New(rand.NewSource(382))
	for _, parents := range [][][]int{samples.RowOfParents(api.MaxVars), samples.DrawnParents(source, api.MaxVars, 1, false), samples.DrawnParents(source, api.MaxVars, 2, false)} {
		g, e := graph.Moral(parents)
		if e != api.OK {
			t.Fatalf("Moral: %v", e)
		}
		for _, w := range ways() {
			checkSteps(t, w, g, source.Perm(g.Len())[:600])
		}
	}
}

// TestGreatest: as many points as may be, without edges, in a ring, around one,
// all with all.
func TestGreatest(t *testing.T) {
	all := numbers(api.MaxVars)
	last := api.MaxVars - 1
	bare, round, star := made(t, api.MaxVars, nil), made(t, api.MaxVars, nil), made(t, api.MaxVars, nil)
	for a := range api.MaxVars {
		round.Join(a, (a+1)%api.MaxVars)
		star.Join(0, a)
	}
	full, e := graph.Moral(samples.FullParents(api.MaxVars))
	if e != api.OK {
		t.Fatalf("Moral: %v", e)
	}
	// The middle of the star is as light as the last ray when this alone is left.
	rays := slices.Concat(all[1:last], []int{0, last})
	for _, w := range ways() {
		for what, c := range map[string]struct {
			g    *graph.Graph
			want []int
		}{"no edges": {bare, all}, "a ring": {round, all}, "a star": {star, rays}} {
			if got := w.taken(t, c.g, all); !slices.Equal(got, c.want) {
				t.Errorf("%s: %s: %v", what, w.name, got)
			}
		}
		if got := w.taken(t, full, all[:400]); !slices.Equal(got, all[:400]) {
			t.Errorf("all with all: %s: %v", w.name, got)
		}
	}
	if got, e := order.Fill(full, all); !slices.Equal(got, all) || e != api.OK {
		t.Errorf("all with all: Fill: %v, %v", got, e)
	}
	if got := cliquesOf(t, full, all); !slices.EqualFunc(got, all, func(clique []int, a int) bool { return slices.Equal(clique, all[a:]) }) {
		t.Errorf("all with all: %d cliques", len(got))
	}
}
