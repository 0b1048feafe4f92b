package model_test

import (
	"math/rand"
	"slices"
	"testing"

	"credence/api"
	"credence/factor"
	"credence/model"
	"credence/samples"
)

// 19.7: Boxes.

// boxes are Boxes, which must go well.
func boxes(t *testing.T, n api.Net) []api.Box[api.Rat] {
	t.Helper()
	got, e := model.Boxes(n)
	if e != api.OK || len(got) != len(n.Names) {
		t.Fatalf("Boxes(%.300v): %v, %v", n, got, e)
	}
	return got
}

// checkBox holds a table against what it should be.
func checkBox(t *testing.T, got api.Box[api.Rat], scope, sizes, cells string) {
	t.Helper()
	if !slices.Equal(got.Scope, list(scope)) || !slices.Equal(got.Sizes, list(sizes)) || !slices.EqualFunc(got.Cells, fractions(cells), samples.SameLimbs) {
		t.Errorf("%v / %v / %s, want %s / %s / %s", got.Scope, got.Sizes, wording(got.Cells), scope, sizes, cells)
	}
}

// TestExamplesOfBoxes: the chapter's row.
func TestExamplesOfBoxes(t *testing.T) {
	b := boxes(t, load(t, samples.RainText))
	checkBox(t, b[0], "0", "2", "4/5 1/5")
	checkBox(t, b[1], "0 1", "2 2", "9/10 1/10 1/10 9/10")
	if len(boxes(t, load(t, "network n { }"))) != 0 {
		t.Error("tables of no variables")
	}
}

// TestScopesRise: cells stand where the rising scope puts them.
func TestScopesRise(t *testing.T) {
	n := plainNet()
	b := boxes(t, n)
	checkBox(t, b[1], "0 1", "2 3", "1 0 0 1/3 1/3 1/3")
	// c hangs on b and a, in this order.
	checkBox(t, b[2], "0 1 2", "2 3 2", "1 0 1/2 1/2 1/5 4/5 0 1 1/4 3/4 1/6 5/6")
	n = netOf(hung("2 1 | 2 | "), list("2 1 3"), even)
	n.Tables[0] = fractions("1 0 0 1 1/3 2/3")
	n.Tables[2] = fractions("1/6 1/3 1/2")
	b = boxes(t, n)
	checkBox(t, b[0], "0 1 2", "2 1 3", "1 0 1/3 0 1 2/3")
	checkBox(t, b[1], "1 2", "1 3", "1 1 1")
	checkBox(t, b[2], "2", "3", "1/6 1/3 1/2")
}

// TestCellsAreNormal: whatever stands for a number in the network.
func TestCellsAreNormal(t *testing.T) {
	n := alone([]string{"x", "y", "z"}, nil, []api.Rat{{Num: api.Int{Mag: api.Nat{3, 0}}, Den: api.Nat{6, 0, 0}}, ratio(2, 4), {Num: api.Int{Neg: true, Mag: api.Nat{0}}}})
	checkBox(t, boxes(t, n)[0], "0", "3", "1/2 1/2 0")
	n = alone([]string{"x"}, nil, []api.Rat{{Num: api.Int{Mag: api.Nat{1}}}})
	checkBox(t, boxes(t, n)[0], "0", "1", "1")
	checkChance(t, n, list("0"), ratio(1, 1))
}

// TestDrawnBoxes: each cell is what the table says at its values; the tables may
// be.
func TestDrawnBoxes(t *testing.T) {
	w := writer{rand.New(rand.NewSource(198))}
	for i := range 400 {
		n := w.net(i % 7)
		for v, b := range boxes(t, n) {
			family := append(slices.Clone(n.Parents[v]), v)
			slices.Sort(family)
			if factor.Check(b) != api.OK || !slices.Equal(b.Scope, family) {
				t.Fatalf("%v: table %d over %v: %v", n, v, b.Scope, factor.Check(b))
			}
			for values := range samples.Assignments(n) {
				var own []int
				for _, x := range family {
					own = append(own, values[x])
				}
				if x, e := factor.Cell(b, own); e != api.OK || !samples.SameLimbs(x, samples.EntryAt(n, v, values)) {
					t.Fatalf("%v: table %d at %v: %v, %v", n, v, own, x, e)
				}
			}
		}
	}
}

// TestLargeBoxes: a table of as many cells as may be, its parents falling.
func TestLargeBoxes(t *testing.T) {
	parents := make([][]int, 16)
	for v := range 15 {
		parents[15] = append(parents[15], 14-v)
	}
	n := netOf(parents, slices.Repeat([]int{2}, 16), samples.DrawnRow(rand.New(rand.NewSource(199))))
	b := boxes(t, n)[15]
	for at, x := range b.Cells {
		turned := 0
		for v := range 15 {
			turned |= at >> (15 - v) & 1 << v
		}
		if !samples.SameLimbs(x, n.Tables[15][turned<<1|at&1]) {
			t.Fatalf("cell %d: %v", at, x)
		}
	}
}
