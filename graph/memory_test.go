package graph_test

import (
	"slices"
	"testing"

	"credence/api"
	"credence/graph"
	"credence/samples"
)

// R3, R4, R5: what is handed in is not changed and not kept, what is answered is
// new memory.

// marks are numbers that are no points of these tests, and that would show.
var marks = samples.Marks[int]{Spare: 77, Ink: -99}

// flat are edges as numbers.
func flat(edges []api.Edge) []int {
	var out []int
	for _, edge := range edges {
		out = append(out, edge.From, edge.To)
	}
	return out
}

// lists are all lists that a graph tells, each twice; all its points are taken
// out in the end.
func lists(g *graph.Graph) [][]int {
	var out [][]int
	for a := range g.Len() {
		out = append(out, g.Near(a), g.Near(a))
	}
	out = slices.Concat(out, g.Pieces(), g.Pieces())
	out = append(out, flat(told(g)))
	for a := range g.Len() {
		clique, put := g.Remove(a)
		out = append(out, clique, flat(put))
	}
	return out
}

// TestMemoryOfLists: parents and points that are handed in, all that is told.
func TestMemoryOfLists(t *testing.T) {
	for _, text := range []string{"", "|", "| 0 | 0 | 2 1", "3 2 1 | 3 2 | 3 |", "| | | 0 1 2", "| 0 | 0 | 0 | 0 | 0", "0", "1 | 0", "| 0 0", "5 |"} {
		for _, points := range []string{"", "0", "1 0", "3 2 1 0", "0 0 -1 0 3", "7 8 9"} {
			parents := hung(text)
			call := func(in [][]int) [][]int {
				g, e := graph.Moral(in[:len(parents)])
				if e != api.OK {
					return [][]int{{int(e)}}
				}
				h := g.Among(in[len(parents)])
				return slices.Concat(lists(h), lists(g))
			}
			if wrong := samples.Alone(call, slices.Concat(parents, [][]int{list(points)}), marks); wrong != "" {
				t.Fatalf("%s; %s: %s", text, points, wrong)
			}
		}
	}
}

// TestNotKept: lists that were handed in, and lists that were told, may be
// written over: the graph stays what it is.
func TestNotKept(t *testing.T) {
	parents := hung("| 0 | 0 | 2 1")
	points := list("0 1 2 3")
	g, _ := graph.Moral(parents)
	h := g.Among(points)
	for _, l := range slices.Concat(parents, [][]int{points}) {
		for i := range l {
			l[i] = 3 - l[i]
		}
	}
	for _, each := range []*graph.Graph{g, h} {
		for _, l := range slices.Concat(each.Pieces(), [][]int{each.Near(0), each.Near(1)}) {
			for i := range l[:cap(l)] {
				l[:cap(l)][i] = 2
			}
		}
		checkSame(t, each, asMoral(hung("| 0 | 0 | 2 1")))
	}
}

// TestMemoryOfEdges: edges that Remove told may be written over.
func TestMemoryOfEdges(t *testing.T) {
	g := made(t, 5, edges("0-1 0-2 0-3"))
	before := g.Edges()
	clique, put := g.Remove(0)
	for i := range put[:cap(put)] {
		put[:cap(put)][i] = api.Edge{From: 4, To: 4}
	}
	for i := range clique[:cap(clique)] {
		clique[:cap(clique)][i] = 4
	}
	if got := told(g); !slices.Equal(got, edges("1-2 1-3 2-3")) || !slices.Equal(slices.Collect(before), edges("0-1 0-2 0-3")) {
		t.Errorf("the edges are %v", got)
	}
}

// TestRoomOfPieces: the list of lists has its own memory too.
func TestRoomOfPieces(t *testing.T) {
	g := ring(t)
	pieces := g.Pieces()
	for i := range pieces[:cap(pieces)] {
		pieces[:cap(pieces)][i] = []int{-1}
	}
	if got := g.Pieces(); !alike(got, hung("0 1 2 3 | 4")) {
		t.Errorf("Pieces, the second time: %v", got)
	}
}

// TestRoomOfParents: the spare room behind the list of lists is left alone.
func TestRoomOfParents(t *testing.T) {
	room := append(hung("| 0 | 0 | 2 1"), []int{8}, []int{9})
	if g, e := graph.Moral(room[:4]); e != api.OK || g.Len() != 4 || !alike(room, hung("| 0 | 0 | 2 1 | 8 | 9")) {
		t.Errorf("%v, the parents are %v", e, room)
	}
}

// TestTwoGraphs: two that were made by one call, of the same things, share
// nothing.
func TestTwoGraphs(t *testing.T) {
	parents := hung("| 0 | 0 | 2 1")
	first, _ := graph.Moral(parents)
	second, _ := graph.Moral(parents)
	first.Remove(0)
	first.Join(0, 3)
	checkSame(t, second, asMoral(parents))
	one, two := made(t, 3, nil), made(t, 3, nil)
	one.Join(0, 1)
	checkSame(t, two, bare(3))
	third, fourth := second.Among(list("0 1 2")), second.Among(list("0 1 2"))
	third.Remove(1)
	checkSame(t, fourth, among(asMoral(parents), list("0 1 2")))
}

// TestNothingIsChanged: what only tells something changes nothing.
func TestNothingIsChanged(t *testing.T) {
	for p := range small(4) {
		g := graphOf(t, p)
		for a := -1; a <= len(p); a++ {
			g.Fill(a)
			g.Near(a)
			g.Has(a, a+1)
			g.Among([]int{a, a + 1}).Remove(a)
		}
		first, second := g.Chordal(), g.Chordal()
		if first != second {
			t.Fatalf("%v: Chordal: %v, then %v", p.Edges(), first, second)
		}
		g.Pieces()
		g.Edges()
		checkSame(t, g, p)
	}
}
