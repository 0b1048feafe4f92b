package factor_test

import (
	"math"
	"math/rand"
	"slices"
	"testing"

	"credence/api"
	"credence/factor"
)

// 13.4: Given.

// fix is a variable with a value.
func fix(v, value int) api.Fix { return api.Fix{Var: v, Value: value} }

// TestExamplesOfGiven: the chapter's rows.
func TestExamplesOfGiven(t *testing.T) {
	for _, c := range []struct {
		f    api.Fix
		want string
		code api.Errno
	}{{fix(0, 1), "1 / 2 / 3 4", api.OK}, {fix(1, 0), "0 / 2 / 1 3", api.OK}, {fix(1, 2), "//", api.ErrRange}, {fix(2, 0), "//", api.ErrScope}} {
		expect(t, "Given", of(factor.Given(table("0 1 / 2 2 / 1 2 3 4"), c.f)), table(c.want), c.code)
	}
}

func TestFixed(t *testing.T) {
	for _, c := range []struct {
		a    string
		f    api.Fix
		want string
	}{
		{"0 / 1 / a", fix(0, 0), " / / a"},
		{"0 / 3 / a b c", fix(0, 0), " / / a"},
		{"0 / 3 / a b c", fix(0, 2), " / / c"},
		{"3 8 / 2 3 / a b c d e f", fix(3, 0), "8 / 3 / a b c"},
		{"3 8 / 2 3 / a b c d e f", fix(3, 1), "8 / 3 / d e f"},
		{"3 8 / 2 3 / a b c d e f", fix(8, 1), "3 / 2 / b e"},
		{"0 1 2 / 2 2 2 / a b c d e f g h", fix(1, 1), "0 2 / 2 2 / c d g h"},
		{"0 1 2 / 2 1 2 / a b c d", fix(1, 0), "0 2 / 2 2 / a b c d"},
		{"0 9223372036854775807 / 1 2 / a b", fix(math.MaxInt, 1), "0 / 1 / b"},
	} {
		check(t, c.a, of(factor.Given(words(c.a), c.f)), words(c.want))
	}
}

// fixed is a table with a variable fixed, cell by cell, found by looking.
func fixed[T any](a api.Box[T], f api.Fix) api.Box[T] {
	scope, sizes := rest(a, f.Var)
	return filled(scope, sizes, func(n naming) T { return find(a, n.with(f.Var, f.Value)) })
}

// TestDrawnFixes: each cell is where it should be, whatever is fixed.
func TestDrawnFixes(t *testing.T) {
	source := rand.New(rand.NewSource(134))
	for range 300 {
		a := drawn(source, 5, letters())
		for v := range 8 {
			for value := range sizes(v) {
				if slices.Contains(a.Scope, v) {
					check(t, "fixed", of(factor.Given(a, fix(v, value))), fixed(a, fix(v, value)))
				} else {
					refused(t, "no such variable", of(factor.Given(a, fix(v, value))), api.ErrScope)
				}
			}
		}
	}
}

// TestOrderOfErrorsOfGiven: Check, ErrScope, ErrRange.
func TestOrderOfErrorsOfGiven(t *testing.T) {
	values := []int{math.MinInt, -1, 0, 1, 2, 3, math.MaxInt}
	for text, code := range wrong() {
		for _, v := range []int{-1, 0, 1, 9} {
			for _, value := range values {
				refused(t, text, of(factor.Given(table(text), fix(v, value))), code)
			}
		}
	}
	for _, v := range []int{math.MinInt, -1, 0, 2, 4, math.MaxInt} {
		for _, value := range values {
			refused(t, "no such variable", of(factor.Given(table("1 3 / 2 2 / 1 2 3 4"), fix(v, value))), api.ErrScope)
			refused(t, "no variables", of(factor.Given(table(" / / 1"), fix(v, value))), api.ErrScope)
		}
	}
	for _, value := range []int{math.MinInt, -2, -1, 2, 3, 4, 1 << 32, math.MaxInt} {
		refused(t, "no such value", of(factor.Given(table("1 3 / 2 2 / 1 2 3 4"), fix(1, value))), api.ErrRange)
		refused(t, "no such value", of(factor.Given(table("1 3 / 2 2 / 1 2 3 4"), fix(3, value))), api.ErrRange)
	}
	// Each variable has its own size.
	refused(t, "another one's value", of(factor.Given(table("1 3 / 3 2 / 1 2 3 4 5 6"), fix(3, 2))), api.ErrRange)
	check(t, "its own value", of(factor.Given(table("1 3 / 3 2 / 1 2 3 4 5 6"), fix(1, 2))), table("3 / 2 / 5 6"))
}

// TestGreatestFixes: as many cells as there may be.
func TestGreatestFixes(t *testing.T) {
	for _, c := range []struct {
		a     api.Box[struct{}]
		f     api.Fix
		cells int
	}{
		{empty("0", "2147483647"), fix(0, api.MaxCount-1), 1}, {empty("0 1", "1 2147483647"), fix(0, 0), api.MaxCount}, {empty("0 1", "1 2147483647"), fix(1, api.MaxCount-1), 1},
		{empty("0 1", "46340 46341"), fix(0, 46339), 46341}, {empty("0 1", "46340 46341"), fix(1, 46340), 46340},
	} {
		got, code := factor.Given(c.a, c.f)
		if code != api.OK || len(got.Cells) != c.cells || factor.Check(got) != api.OK {
			t.Errorf("%v / %v, %v: %d cells, %v", c.a.Scope, c.a.Sizes, c.f, len(got.Cells), code)
		}
	}
}
