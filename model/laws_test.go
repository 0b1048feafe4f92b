package model_test

import (
	"math/rand"
	"slices"
	"testing"

	"credence/api"
	"credence/factor"
	"credence/frac"
	"credence/model"
	"credence/samples"
	"credence/show"
)

// 19.9: what follows.

// checkLaws holds what follows of a network that a file has.
func checkLaws(t *testing.T, n api.Net) {
	t.Helper()
	if e := model.Check(n); e != api.OK {
		t.Fatalf("%v may not be: %v", n, e)
	}
	all := boxes(t, n)
	sum := frac.Sum()
	for values := range samples.Assignments(n) {
		chance, e := model.Chance(n, values)
		if e != api.OK {
			t.Fatalf("Chance(%v, %v): %v", n, values, e)
		}
		sum = frac.Add(sum, chance)
		product := ratio(1, 1)
		for _, b := range all {
			own := make([]int, len(b.Scope))
			for i, v := range b.Scope {
				own[i] = values[v]
			}
			x, e := factor.Cell(b, own)
			if e != api.OK {
				t.Fatalf("%v at %v: %v", b, own, e)
			}
			product = frac.Mul(product, x)
		}
		if frac.Cmp(product, chance) != 0 {
			t.Fatalf("%v at %v: %v, by its tables %v", n, values, chance, product)
		}
	}
	if frac.Text(sum) != "1" {
		t.Fatalf("%v: all chances together are %s", n, frac.Text(sum))
	}
}

// checkThereAndBack: what is written of a network is read as it.
func checkThereAndBack(t *testing.T, n api.Net) {
	t.Helper()
	text, e := show.Net(n)
	if e != api.OK {
		t.Fatalf("Net(%v): %v", n, e)
	}
	again := load(t, text)
	if !model.Same(again, n) || !identical(again, n) {
		t.Fatalf("Load(%q): %v, want %v", text, again, n)
	}
	if other, e := show.Net(again); e != api.OK || other != text {
		t.Fatalf("written again: %q, %v, want %q", other, e, text)
	}
}

// TestLaws: of the examples, and of files in all ways.
func TestLaws(t *testing.T) {
	w := writer{rand.New(rand.NewSource(1911))}
	nets := []api.Net{load(t, samples.RainText), load(t, "network n { }"), load(t, plainText)}
	for i := range 400 {
		n, e := model.Elaborate(w.file(w.net(i % 6)))
		if e != api.OK {
			t.Fatal(e)
		}
		nets = append(nets, n)
	}
	for _, n := range nets {
		checkLaws(t, n)
		checkThereAndBack(t, n)
	}
}

// TestSpoiltFilesThatAreWell: what is spoilt, and has a network all the same.
func TestSpoiltFilesThatAreWell(t *testing.T) {
	w := writer{rand.New(rand.NewSource(1912))}
	times := 0
	for i := range 4000 {
		f := w.file(w.net(1 + i%4))
		w.spoil(&f)
		if n, e := model.Elaborate(f); e == api.OK {
			times++
			checkLaws(t, n)
			checkThereAndBack(t, n)
		}
	}
	if times < 200 {
		t.Errorf("well %d times alone", times)
	}
}

// TestLargeThereAndBack: many variables, and a table of many cells.
func TestLargeThereAndBack(t *testing.T) {
	row := samples.DrawnRow(rand.New(rand.NewSource(1913)))
	checkThereAndBack(t, netOf(samples.RowOfParents(api.MaxVars), slices.Repeat([]int{3}, api.MaxVars), row))
	checkThereAndBack(t, netOf(hung("| | 0 1 | 2"), list("16 16 64 2"), row))
}
