package set_test

import (
	"cmp"
	"testing"

	"credence/samples"
	"credence/set"
)

// 11.4: what follows.

// checkSame holds two ways to one set against each other.
func checkSame[T cmp.Ordered](t *testing.T, what string, a, b set.Set[T]) {
	t.Helper()
	if !a.Same(b) || !b.Same(a) || !a.Within(b) || !b.Within(a) || a.Len() != b.Len() {
		t.Fatalf("%s: %v and %v", what, a.List(), b.List())
	}
}

// checkLaws: what holds of any three sets.
func checkLaws[T cmp.Ordered](t *testing.T, a, b, c set.Set[T]) {
	t.Helper()
	checkSame(t, "Join in another order", a.Join(b), b.Join(a))
	checkSame(t, "Meet in another order", a.Meet(b), b.Meet(a))
	checkSame(t, "Join in other brackets", a.Join(b).Join(c), a.Join(b.Join(c)))
	checkSame(t, "Meet in other brackets", a.Meet(b).Meet(c), a.Meet(b.Meet(c)))
	checkSame(t, "Meet over Join", a.Meet(b.Join(c)), a.Meet(b).Join(a.Meet(c)))
	checkSame(t, "Join over Meet", a.Join(b.Meet(c)), a.Join(b).Meet(a.Join(c)))
	checkSame(t, "what it meets and does not meet", a, a.Meet(b).Join(a.Minus(b)))
	var none set.Set[T]
	checkSame(t, "what it meets of what it does not", none, a.Meet(b).Meet(a.Minus(b)))
	if !none.Within(a) || a.Within(none) != (a.Len() == 0) {
		t.Fatalf("nothing, within %v", a.List())
	}
	if !a.Meet(b).Within(a) || !a.Within(a.Join(b)) || !a.Minus(b).Within(a) {
		t.Fatalf("%v and %v: Within", a.List(), b.List())
	}
}

// checkSplit: the parts of a set hold its own things, bit by bit.
func checkSplit(t *testing.T, a, b set.Set[float64]) {
	t.Helper()
	check(t, "what it meets and does not meet", a.Meet(b).Join(a.Minus(b)), a.List(), b.List()...)
	check(t, "the same, the other way", a.Minus(b).Join(a.Meet(b)), a.List(), b.List()...)
}

func TestLaws(t *testing.T) {
	for _, a := range parts([]int{-1, 0, 2, 3}) {
		for _, b := range parts([]int{-1, 0, 2, 3}) {
			for _, c := range parts([]int{-1, 0, 2, 3}) {
				checkLaws(t, set.Of(a...), set.Of(b...), set.Of(c...))
			}
		}
	}
}

// TestLawsOfFloats: things that are the same without being alike do not mind.
func TestLawsOfFloats(t *testing.T) {
	some := []float64{first, second, minus0, 0, 1}
	for _, a := range parts(some) {
		for _, b := range parts(some) {
			checkSplit(t, set.Of(a...), set.Of(b...))
			for _, c := range parts(some) {
				checkLaws(t, set.Of(a...), set.Of(b...), set.Of(c...))
			}
		}
	}
}

// TestThereAndBack: a set is the set of its list, and of any row of it.
func TestThereAndBack(t *testing.T) {
	for list := range samples.ListsOf(words("d a c"), 5) {
		s := set.Of(list...)
		checkSame(t, "Of its list", s, set.Of(s.List()...))
		one := set.Of[string]()
		for _, x := range list {
			one = one.Join(set.Of(x))
		}
		checkSame(t, "thing by thing", s, one)
	}
}
