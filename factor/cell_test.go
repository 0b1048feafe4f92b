package factor_test

import (
	"math"
	"math/rand"
	"slices"
	"strings"
	"testing"

	"credence/api"
	"credence/factor"
	"credence/frac"
	"credence/samples"
)

// 13.5: Cell and Map.

// checkCell holds Cell against its row.
func checkCell[T comparable](t *testing.T, a api.Box[T], values []int, want T, code api.Errno) {
	t.Helper()
	if got, e := factor.Cell(a, values); got != want || e != code {
		t.Fatalf("Cell(%v; %v): %v, %v, want %v, %v", a, values, got, e, want, code)
	}
}

// TestExamplesOfCell: the chapter's rows.
func TestExamplesOfCell(t *testing.T) {
	a := table("0 1 / 2 2 / 1 2 3 4")
	checkCell(t, a, list("1 0"), 3, api.OK)
	checkCell(t, a, list("1"), 0, api.ErrShape)
	checkCell(t, a, list("1 2"), 0, api.ErrRange)
}

// TestCells: at each choice stands the cell that has its place.
func TestCells(t *testing.T) {
	checkCell(t, words(" / / x"), nil, "x", api.OK)
	checkCell(t, words(" / / x"), []int{}, "x", api.OK)
	source := rand.New(rand.NewSource(135))
	for range 200 {
		a := drawn(source, 5, letters())
		for i, values := range choices(a.Sizes) {
			checkCell(t, a, values, a.Cells[i], api.OK)
		}
	}
}

// TestOrderOfErrorsOfCell: Check, ErrShape, ErrRange.
func TestOrderOfErrorsOfCell(t *testing.T) {
	for text, code := range wrong() {
		for _, values := range []string{"", "0", "-1", "9", "0 0", "0 0 0"} {
			checkCell(t, table(text), list(values), 0, code)
		}
	}
	a := table("2 5 / 2 3 / 1 2 3 4 5 6")
	for _, values := range []string{"", "0", "-1", "9", "0 0 0", "9 9 9", "-1 0 0", "1 2 0"} {
		checkCell(t, a, list(values), 0, api.ErrShape)
	}
	checkCell(t, table(" / / 1"), list("0"), 0, api.ErrShape)
	for _, values := range []string{"-1 0", "0 -1", "2 0", "0 3", "2 2", "2 3", "9223372036854775807 0", "0 -9223372036854775808", "0 4294967296", "-1 5", "1 -1"} {
		checkCell(t, a, list(values), 0, api.ErrRange)
	}
}

// TestExamplesOfMap: the chapter's rows.
func TestExamplesOfMap(t *testing.T) {
	check(t, "what is doubled", of(factor.Map(table("0 / 2 / 1 2"), func(x int) int { return 2 * x })), table("0 / 2 / 2 4"))
	refused(t, "by none", of(factor.Map[int, int](table("0 / 2 / 1 2"), nil)), api.ErrNil)
}

// TestMaps: cells may become things of another type.
func TestMaps(t *testing.T) {
	loud := func(x string) string { return strings.ToUpper(x) }
	check(t, "texts", of(factor.Map(words("3 8 / 2 3 / a b c d e f"), loud)), words("3 8 / 2 3 / A B C D E F"))
	check(t, "no variables", of(factor.Map(words(" / / a"), loud)), words(" / / A"))
	rats := func(x int) string { return frac.Text(samples.Ratio(x, 2)) }
	check(t, "numbers to texts", of(factor.Map(table("0 / 3 / 1 3 -5"), rats)), api.Box[string]{Scope: []int{0}, Sizes: []int{3}, Cells: []string{"1/2", "3/2", "-5/2"}})
	length := func(x string) int { return len(x) }
	check(t, "texts to numbers", of(factor.Map(words("9 / 2 / abc d"), length)), table("9 / 2 / 3 1"))
}

// TestOrderOfMap: the function is called once for each cell, in order; where
// there is an error it is not called.
func TestOrderOfMap(t *testing.T) {
	source := rand.New(rand.NewSource(136))
	for range 100 {
		a := drawn(source, 5, counted())
		var met []int
		_, code := factor.Map(a, func(x int) int { met = append(met, x); return 0 })
		if code != api.OK || !slices.Equal(met, a.Cells) {
			t.Fatalf("%v: called with %v, %v", a, met, code)
		}
	}
	for text, code := range wrong() {
		called := false
		refused(t, text, of(factor.Map(table(text), func(x int) bool { called = true; return true })), code)
		if called {
			t.Errorf("%s: called", text)
		}
		refused(t, text, of(factor.Map[int, string](table(text), nil)), api.ErrNil)
	}
}

// TestMapThatWritesOver: what the function does to the table it came of is not
// seen in scope and sizes.
func TestMapThatWritesOver(t *testing.T) {
	a := table("0 1 / 2 2 / 1 2 3 4")
	got := of(factor.Map(a, func(x int) int {
		a.Scope[0], a.Scope[1], a.Sizes[0], a.Sizes[1] = 7, 7, math.MinInt, -1
		return -x
	}))
	check(t, "written over", got, table("0 1 / 2 2 / -1 -2 -3 -4"))
}
