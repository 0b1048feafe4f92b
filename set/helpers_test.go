package set_test

import (
	"cmp"
	"math"
	"slices"
	"strings"
	"testing"

	"credence/set"
)

// Things in types of another name.
type (
	name  string
	digit int8
	share float64
)

// first and second are no numbers, both, but not of the same bits.
var (
	first  = math.Float64frombits(0x7ff8000000000001)
	second = math.Float64frombits(0xfff8000000000002)
	minus0 = math.Copysign(0, -1)
)

// floats are such as are the same without being alike, and some others.
func floats() []float64 {
	return []float64{first, second, math.Inf(-1), -1, minus0, 0, math.SmallestNonzeroFloat64, math.Inf(1)}
}

// words are the things that stand in a text.
func words(text string) []string { return strings.Fields(text) }

// bits are floats as numbers that are equal just where these are alike.
func bits(list []float64) []uint64 {
	out := make([]uint64, len(list))
	for i, x := range list {
		out[i] = math.Float64bits(x)
	}
	return out
}

// alike is whether two lists have the same things, of floats bit by bit.
func alike[T cmp.Ordered](a, b []T) bool {
	if x, ok := any(a).([]float64); ok {
		return slices.Equal(bits(x), bits(any(b).([]float64)))
	}
	return slices.Equal(a, b)
}

// check holds all that a set tells of itself against the things that it
// should have, and against others that it should not.
func check[T cmp.Ordered](t *testing.T, what string, s set.Set[T], want []T, others ...T) {
	t.Helper()
	if got := s.List(); !alike(got, want) || s.Len() != len(want) {
		t.Fatalf("%s: %v, %d things, want %v", what, got, s.Len(), want)
	}
	for _, x := range want {
		if !s.Has(x) {
			t.Fatalf("%s: %v is not in", what, x)
		}
	}
	for _, x := range others {
		if s.Has(x) != has(want, x) {
			t.Fatalf("%s: Has(%v) is %v of %v", what, x, s.Has(x), want)
		}
	}
}

// The judges: what sets should be, by lists that are gone through from end to
// end, with nothing taken for granted of their order.

// has is whether the same thing is in a list.
func has[T cmp.Ordered](list []T, x T) bool {
	return slices.ContainsFunc(list, func(y T) bool { return cmp.Compare(x, y) == 0 })
}

// rising are the things of a list, the first of those that are the same: each
// is put ahead of the first one that is greater.
func rising[T cmp.Ordered](list []T) []T {
	var out []T
	for _, x := range list {
		if has(out, x) {
			continue
		}
		at := 0
		for at < len(out) && cmp.Compare(out[at], x) < 0 {
			at++
		}
		out = slices.Insert(out, at, x)
	}
	return out
}

// among are the things of a list that are in another one, or that are not.
func among[T cmp.Ordered](list, other []T, in bool) []T {
	var out []T
	for _, x := range list {
		if has(other, x) == in {
			out = append(out, x)
		}
	}
	return out
}

// parts are all choices out of some things, none of them and all among them.
func parts[T any](some []T) [][]T {
	out := [][]T{nil}
	for _, x := range some {
		for _, l := range out {
			out = append(out, append(slices.Clip(l), x))
		}
	}
	return out
}
