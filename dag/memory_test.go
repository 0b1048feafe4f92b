package dag_test

import (
	"slices"
	"testing"

	"credence/api"
	"credence/dag"
	"credence/samples"
)

// R3, R5: what is handed in is not changed, what is answered is new memory.

// marks are numbers that are no points of these tests, and that would show.
var marks = samples.Marks[int]{Spare: 77, Ink: -99}

// calls are all calls that answer lists of numbers, each twice.
func calls() map[string]func(parents [][]int, points []int) [][]int {
	one := func(l []int, _ api.Errno) [][]int { return [][]int{l} }
	return map[string]func(parents [][]int, points []int) [][]int{
		"Check": func(parents [][]int, points []int) [][]int { return [][]int{{int(dag.Check(parents))}} },
		"Cycle": func(parents [][]int, points []int) [][]int { return [][]int{dag.Cycle(parents), dag.Cycle(parents)} },
		"Order": func(parents [][]int, points []int) [][]int {
			return slices.Concat(one(dag.Order(parents)), one(dag.Order(parents)))
		},
		"Above": func(parents [][]int, points []int) [][]int {
			return slices.Concat(one(dag.Above(parents, points...)), one(dag.Above(parents, points...)))
		},
		"Below": func(parents [][]int, points []int) [][]int {
			return slices.Concat(one(dag.Below(parents, points...)), one(dag.Below(parents, points...)))
		},
		"Children": func(parents [][]int, points []int) [][]int {
			first, _ := dag.Children(parents)
			second, _ := dag.Children(parents)
			return slices.Concat(first, second)
		},
		"Edges": func(parents [][]int, points []int) [][]int { return flat(dag.Edges(parents)) },
	}
}

// flat are edges as numbers.
func flat(edges []api.Edge, _ api.Errno) [][]int {
	var out []int
	for _, edge := range edges {
		out = append(out, edge.From, edge.To)
	}
	return [][]int{out}
}

// checkAlone looks at the memory of all calls.
func checkAlone(t *testing.T, parents [][]int, points []int) {
	t.Helper()
	for what, call := range calls() {
		laid := func(in [][]int) [][]int { return call(in[:len(parents)], in[len(parents)]) }
		if wrong := samples.Alone(laid, slices.Concat(parents, [][]int{points}), marks); wrong != "" {
			t.Fatalf("%s(%v; %v): %s", what, parents, points, wrong)
		}
	}
}

// TestMemory: of parents that may be and of some that may not.
func TestMemory(t *testing.T) {
	texts := []string{"", "|", "| 0 | 0 | 2 1", "1 | 2 | 0", "0", "1 0 | 0", "| 0 0", "5 |", "3 2 1 | 3 2 | 3 |", "| | | 0 1 2", "| 0 | 0 | 0 | 0 | 0"}
	for _, text := range texts {
		for _, points := range []string{"", "0", "1 0", "0 0 0", "3", "-1", "2 1 0 1"} {
			checkAlone(t, hung(text), list(points))
		}
	}
	for parents := range small(3) {
		checkAlone(t, parents, list("1 0"))
	}
}

// TestRoomBehind: the spare room behind the list of lists is left alone, and a
// list of children is as long as it is told.
func TestRoomBehind(t *testing.T) {
	for what, call := range calls() {
		room := append(p(), []int{8}, []int{9})
		call(room[:4], []int{1})
		if !alike(room, hung("| 0 | 0 | 2 1 | 8 | 9")) {
			t.Errorf("%s: %v", what, room)
		}
	}
	children, _ := dag.Children(p())
	for i := range children[:cap(children)] {
		children[:cap(children)][i] = []int{-1}
	}
	if again, e := dag.Children(p()); !alike(again, hung("1 2 | 3 | 3 |")) || e != api.OK {
		t.Errorf("Children, the second time: %v, %v", again, e)
	}
}

// TestMemoryOfEdges: edges that were told may be written over.
func TestMemoryOfEdges(t *testing.T) {
	parents := p()
	first, _ := dag.Edges(parents)
	second, _ := dag.Edges(parents)
	for i := range first[:cap(first)] {
		first[:cap(first)][i] = api.Edge{From: -1, To: -1}
	}
	if !slices.Equal(second, asEdges(p())) || !alike(parents, p()) {
		t.Errorf("edges share memory: %v of %v", second, parents)
	}
}

// TestOneListTwice: several points may have one list, which may be that of the
// points that are named too.
func TestOneListTwice(t *testing.T) {
	one := []int{0, 1}
	parents := [][]int{nil, one[:1], one, one[:1], one}
	checkTold(t, parents)
	checkReached(t, parents, one)
	checkReached(t, parents, parents[2])
	if !slices.Equal(one, []int{0, 1}) {
		t.Errorf("the list became %v", one)
	}
}

// TestNoneAndEmpty: a nil list is one without elements.
func TestNoneAndEmpty(t *testing.T) {
	for _, parents := range [][][]int{{nil, {}, {0}, {}}, {{}, nil, {0}, nil}} {
		checkTold(t, parents)
		for _, points := range [][]int{nil, {}} {
			if l, e := dag.Above(parents, points...); len(l) != 0 || e != api.OK {
				t.Errorf("Above of none: %v, %v", l, e)
			}
			if l, e := dag.Below(parents, points...); len(l) != 0 || e != api.OK {
				t.Errorf("Below of none: %v, %v", l, e)
			}
		}
	}
}
