package set_test

import (
	"cmp"
	"math/rand"
	"slices"
	"testing"

	"credence/samples"
	"credence/set"
)

// 11.2: With, Without.

// TestExamplesOfWith: the chapter's row.
func TestExamplesOfWith(t *testing.T) {
	s := set.Of("b", "a")
	check(t, `With("ab")`, s.With("ab"), words("a ab b"), "c")
	check(t, `With("a")`, s.With("a"), words("a b"), "c")
	check(t, `Without("b")`, s.Without("b"), words("a"), "b")
	check(t, `Without("c")`, s.Without("c"), words("a b"), "c")
	check(t, "the set itself", s, words("a b"), "ab", "c")
}

// TestEnds: things at either end, and in between.
func TestEnds(t *testing.T) {
	s := set.Of(2, 4)
	check(t, "With(1)", s.With(1), []int{1, 2, 4}, 0, 3, 5)
	check(t, "With(3)", s.With(3), []int{2, 3, 4}, 1, 5)
	check(t, "With(5)", s.With(5), []int{2, 4, 5}, 1, 3)
	check(t, "Without(2)", s.Without(2), []int{4}, 1, 2, 3, 5)
	check(t, "Without(4)", s.Without(4), []int{2}, 1, 3, 4, 5)
	check(t, "Without(3)", s.Without(3), []int{2, 4}, 3)
	check(t, "Without(5)", s.Without(5), []int{2, 4}, 5)
}

// TestWithAlike: of the same thing the one that is in stays; either one of
// them takes it out.
func TestWithAlike(t *testing.T) {
	for _, c := range []struct{ in, more float64 }{{0, minus0}, {minus0, 0}, {first, second}, {second, first}} {
		s := set.Of(c.in, 3)
		check(t, "With", s.With(c.more), rising([]float64{c.in, 3}), c.more, 7)
		check(t, "Without", s.Without(c.more), []float64{3}, c.in, c.more)
		check(t, "Without, With", s.Without(c.more).With(c.more), rising([]float64{c.more, 3}), c.in, 7)
	}
}

// checkWith holds With and Without against their judges, and the set behind
// them against what it was.
func checkWith[T cmp.Ordered](t *testing.T, list []T, x T) {
	t.Helper()
	s := set.Of(list...)
	check(t, "With", s.With(x), rising(slices.Concat(list, []T{x})), x)
	check(t, "Without", s.Without(x), among(rising(list), []T{x}, false), x)
	check(t, "the set itself", s, rising(list), x)
}

func TestSmallWiths(t *testing.T) {
	for list := range samples.ListsOf([]int{-2, 0, 3}, 4) {
		for x := -3; x <= 4; x++ {
			checkWith(t, list, x)
		}
	}
	for list := range samples.ListsOf(floats(), 3) {
		for _, x := range floats() {
			checkWith(t, list, x)
		}
	}
}

// TestStepByStep: one thing after the other is all of them at once.
func TestStepByStep(t *testing.T) {
	source := rand.New(rand.NewSource(311))
	var s set.Set[int]
	var list []int
	for range 400 {
		x := source.Intn(100)
		if source.Intn(3) == 0 {
			s = s.Without(x)
			list = among(list, []int{x}, false)
		} else {
			s = s.With(x)
			list = append(list, x)
		}
		check(t, "step by step", s, rising(list), x, x+1)
		if !s.Same(set.Of(list...)) {
			t.Fatalf("%v is not the same as all at once", s.List())
		}
	}
}
