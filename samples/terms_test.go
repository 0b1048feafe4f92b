package samples_test

import (
	"testing"

	"credence/api"
	"credence/samples"
)

// TestTerms: what is written is what was read.
func TestTerms(t *testing.T) {
	for _, text := range []string{"", "1", "1 2 + 3 *", "-1/2 n", "4 5 - 6 / k7 k-128", "k0 n n"} {
		if got := samples.Wording(samples.Terms(text)); got != text {
			t.Errorf("%q is read as %q", text, got)
		}
	}
	for i, term := range samples.Terms("1 + - * / n") {
		if term.Kind != samples.Kinds()[i] {
			t.Errorf("term %d is of the kind %d", i, term.Kind)
		}
	}
	if got := samples.Wording(samples.Chain("2 x 3 + -", 2)); got != "2 2 1 3 + - 3 + -" {
		t.Errorf("the chain is %s", got)
	}
}

// TestSlips: a word that is no term is told.
func TestSlips(t *testing.T) {
	for _, slip := range []func(){func() { samples.Terms("1 x") }, func() { samples.Terms("k300") }, func() { samples.Terms("+-") }, func() { samples.Chain("1 n", 2) }} {
		func() {
			defer func() {
				if recover() == nil {
					t.Error("a slip was passed over")
				}
			}()
			slip()
		}()
	}
}

// TestTrees: of all short lists just those have trees that are expressions, and
// these are all.
func TestTrees(t *testing.T) {
	var want []string
	for l := range samples.Expressions(6) {
		want = append(want, samples.Wording(l))
	}
	found := 0
	for l := range samples.Lists(samples.Kinds(), 6) {
		if samples.TreeOf(l) == nil {
			continue
		}
		if found >= len(want) || samples.Wording(l) != want[found] {
			t.Fatalf("%s is no expression, or not the next one", samples.Wording(l))
		}
		found++
	}
	// Of 1 to 6 terms: by the number of signs of one and of two.
	if found != len(want) || found != 1+1+5+13+57+201 {
		t.Errorf("%d trees of %d expressions", found, len(want))
	}
	x := samples.TreeOf(samples.Terms("1 2 n -"))
	if x.Kind != api.TermMinus || x.At != 3 || x.Left.At != 0 || x.Right.At != 2 || x.Right.Right.At != 1 || x.Right.Left != nil || !x.IsSum() || !x.IsTwo() || x.Right.IsTwo() {
		t.Errorf("1 2 n - is %v", x)
	}
}
