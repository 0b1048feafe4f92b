package set_test

import (
	"cmp"
	"math/rand"
	"slices"
	"testing"

	"credence/samples"
	"credence/set"
)

// 11.3: Join, Meet, Minus, Within, Same.

// TestExamplesOfJoin: the chapter's rows.
func TestExamplesOfJoin(t *testing.T) {
	a, b := set.Of(1, 2, 3), set.Of(2, 4)
	check(t, "Join", a.Join(b), []int{1, 2, 3, 4}, 0, 5)
	check(t, "Meet", a.Meet(b), []int{2}, 1, 3, 4)
	check(t, "a less b", a.Minus(b), []int{1, 3}, 2, 4)
	check(t, "b less a", b.Minus(a), []int{4}, 1, 2, 3)
	var none set.Set[int]
	check(t, "Join of the zero Set", none.Join(a), []int{1, 2, 3}, 0, 4)
	check(t, "Join with the zero Set", a.Join(none), []int{1, 2, 3}, 0, 4)
}

// TestExamplesOfWithin: the chapter's row.
func TestExamplesOfWithin(t *testing.T) {
	a, b := set.Of(1, 2, 3), set.Of(2, 4)
	var none set.Set[int]
	if !set.Of(2).Within(a) || a.Within(b) || !none.Within(none) {
		t.Errorf("Within: %v, %v, %v", set.Of(2).Within(a), a.Within(b), none.Within(none))
	}
	if !a.Same(set.Of(3, 2, 1)) {
		t.Error("Same of a and 3 2 1")
	}
}

// TestWithins: what is nearly within, and what is within but not the same.
func TestWithins(t *testing.T) {
	for _, c := range []struct {
		s, o         string
		within, same bool
	}{
		{"a b", "a b c", true, false}, {"a c", "a b c", true, false}, {"b c", "a b c", true, false}, {"a b c", "a b", false, false}, {"a b", "a c", false, false},
		{"a b", "b c", false, false}, {"a b", "c d", false, false}, {"a", "", false, false}, {"", "a", true, false}, {"", "", true, true}, {"b a", "a b", true, true}, {"a a", "a", true, true},
	} {
		s, o := set.Of(words(c.s)...), set.Of(words(c.o)...)
		if s.Within(o) != c.within || s.Same(o) != c.same || o.Same(s) != c.same {
			t.Errorf("%s and %s: Within %v, Same %v, %v", c.s, c.o, s.Within(o), s.Same(o), o.Same(s))
		}
	}
}

// TestJoinAlike: of the same thing it is always the first set's.
func TestJoinAlike(t *testing.T) {
	s, o := set.Of(first, minus0, 1), set.Of(second, 0, 2)
	check(t, "Join", s.Join(o), []float64{first, minus0, 1, 2})
	check(t, "Join, the other way", o.Join(s), []float64{second, 0, 1, 2})
	check(t, "Meet", s.Meet(o), []float64{first, minus0})
	check(t, "Meet, the other way", o.Meet(s), []float64{second, 0})
	check(t, "Minus", s.Minus(o), []float64{1}, 0, minus0, first, second)
	if s.Within(o) || !set.Of(second, 0).Within(s) || !set.Of(second, 0).Same(set.Of(minus0, first)) {
		t.Error("Within and Same of things that are the same without being alike")
	}
}

// checkBoth holds all that two sets make together against the judges, and
// both sets behind them against what they were.
func checkBoth[T cmp.Ordered](t *testing.T, a, b []T) {
	t.Helper()
	s, o := set.Of(a...), set.Of(b...)
	x, y := rising(a), rising(b)
	all := slices.Concat(a, b)
	check(t, "Join", s.Join(o), rising(all), all...)
	check(t, "Meet", s.Meet(o), among(x, y, true), all...)
	check(t, "Minus", s.Minus(o), among(x, y, false), all...)
	within, back := len(among(x, y, false)) == 0, len(among(y, x, false)) == 0
	if s.Within(o) != within || s.Same(o) != (within && back) {
		t.Fatalf("%v and %v: Within %v, Same %v", x, y, s.Within(o), s.Same(o))
	}
	check(t, "the first set", s, x, all...)
	check(t, "the second set", o, y, all...)
}

func TestSmallBoths(t *testing.T) {
	for _, a := range parts([]int{-1, 0, 2, 3, 7}) {
		for _, b := range parts([]int{-1, 0, 2, 3, 7}) {
			checkBoth(t, a, b)
		}
	}
	for a := range samples.ListsOf(floats(), 2) {
		for b := range samples.ListsOf(floats(), 2) {
			checkBoth(t, a, b)
		}
	}
}

// TestDrawnBoths: longer sets, little and much of them shared.
func TestDrawnBoths(t *testing.T) {
	source := rand.New(rand.NewSource(411))
	for range 300 {
		most := 1 + source.Intn(150)
		a, b := make([]int, source.Intn(80)), make([]int, source.Intn(80))
		for i := range a {
			a[i] = source.Intn(most)
		}
		for i := range b {
			b[i] = source.Intn(most)
		}
		checkBoth(t, a, b)
		checkBoth(t, a, a)
		checkBoth(t, a, slices.Concat(a, b))
	}
}

// TestWithItself: a set may be handed to its own calls.
func TestWithItself(t *testing.T) {
	s := set.Of(2, 1)
	check(t, "Join", s.Join(s), []int{1, 2})
	check(t, "Meet", s.Meet(s), []int{1, 2})
	check(t, "Minus", s.Minus(s), nil, 1, 2)
	if !s.Within(s) || !s.Same(s) {
		t.Error("a set is not within itself")
	}
}
