package order_test

import (
	"slices"
	"testing"

	"credence/graph"
	"credence/order"
	"credence/samples"
)

// R3, R4, R5: what is handed in is not changed and not kept, what is answered is
// new memory.

// marks are numbers that are no points of these tests, and that would show.
var marks = samples.Marks[int]{Spare: 77, Ink: -99}

// answers are all that the calls tell of some points of a graph, each twice.
func answers(g *graph.Graph, points, others []int) [][]int {
	var out [][]int
	for range 2 {
		for _, w := range ways() {
			got, e := w.call(g, points)
			out = append(out, got, []int{int(e)})
		}
		cliques, e := order.Cliques(g, points)
		out = append(slices.Concat(out, cliques), []int{int(e)})
		width, e := order.Width(g, points)
		out = append(out, []int{width, int(e), int(order.Check(points, others))})
	}
	return out
}

// TestMemory: of points that may be taken out and of some that may not; the
// graph stays what it is.
func TestMemory(t *testing.T) {
	texts := []string{"", "0", "3", "1 0", "4 3 2 1 0", "0 1 2 3 4", "2 0 4", "1 1", "5", "3 -1 3"}
	for bits := 0; bits < 1<<10; bits += 7 {
		p := unfolded(5, bits)
		g := made(t, 5, p.Edges())
		for i, text := range texts {
			call := func(in [][]int) [][]int { return answers(g, in[0], in[1]) }
			for _, other := range []string{text, texts[(i+1)%len(texts)]} {
				if wrong := samples.Alone(call, [][]int{list(text), list(other)}, marks); wrong != "" {
					t.Fatalf("%v; %s; %s: %s", p.Edges(), text, other, wrong)
				}
			}
		}
		checkUnchanged(t, g, p)
	}
}

// TestLaterChanges: an answer stays what it is, whatever becomes of the graph.
func TestLaterChanges(t *testing.T) {
	g := ring(t)
	points := list("4 0 1 2 3")
	got := answers(g, points, points)
	for point := range g.Len() {
		g.Remove(point)
	}
	if want := answers(ring(t), points, points); !alike(got, want) {
		t.Errorf("%v, want %v", got, want)
	}
}

// TestRoomOfCliques: the list of lists has its own memory too.
func TestRoomOfCliques(t *testing.T) {
	g := ring(t)
	first := cliquesOf(t, g, list("4 0 1 2 3"))
	for i := range first[:cap(first)] {
		first[:cap(first)][i] = []int{-1}
	}
	if got := cliquesOf(t, g, list("4 0 1 2 3")); !alike(got, hung("3 4 | 0 1 3 | 1 2 3 | 2 3 | 3")) {
		t.Errorf("Cliques, the second time: %v", got)
	}
}

// TestOneListTwice: one list may be handed in at both places, or as parts of
// one.
func TestOneListTwice(t *testing.T) {
	one := list("2 1 0 1 2")
	checkCheck(t, one, one, false)
	checkCheck(t, one[:3], one[:3], true)
	checkCheck(t, one[:3], one[2:], true)
	checkCheck(t, one[1:4], one[:3], false)
	if !slices.Equal(one, list("2 1 0 1 2")) {
		t.Errorf("the list became %v", one)
	}
}

// TestNoneAndEmpty: a nil list is one without elements.
func TestNoneAndEmpty(t *testing.T) {
	for _, p := range []plain{unfolded(0, 0), unfolded(1, 0), unfolded(4, 63)} {
		for _, none := range [][]int{nil, {}, make([]int, 0, 3)} {
			checkWays(t, p, none)
			checkCliques(t, p, none)
		}
	}
}
