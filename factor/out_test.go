package factor_test

import (
	"math"
	"math/rand"
	"slices"
	"strconv"
	"testing"

	"credence/api"
	"credence/factor"
	"credence/frac"
	"credence/ring"
	"credence/samples"
)

// 13.3: Out.

// TestExamplesOfOut: the chapter's rows.
func TestExamplesOfOut(t *testing.T) {
	for _, c := range []struct {
		v    int
		want string
		code api.Errno
	}{{0, "1 / 2 / 4 6", api.OK}, {1, "0 / 2 / 3 7", api.OK}, {2, "//", api.ErrScope}} {
		expect(t, "Out of "+strconv.Itoa(c.v), of(factor.Out(numbers, table("0 1 / 2 2 / 1 2 3 4"), c.v)), table(c.want), c.code)
	}
}

// TestStrokesOfOut: each cell is a sum from the left, from Zero on, also of one.
func TestStrokesOfOut(t *testing.T) {
	for _, c := range []struct {
		a    string
		v    int
		want string
	}{
		{"0 / 1 / a", 0, " / / (0+a)"},
		{"0 / 3 / a b c", 0, " / / (((0+a)+b)+c)"},
		{"3 8 / 2 3 / a b c d e f", 3, "8 / 3 / ((0+a)+d) ((0+b)+e) ((0+c)+f)"},
		{"3 8 / 2 3 / a b c d e f", 8, "3 / 2 / (((0+a)+b)+c) (((0+d)+e)+f)"},
		{"0 1 2 / 2 2 2 / a b c d e f g h", 0, "1 2 / 2 2 / ((0+a)+e) ((0+b)+f) ((0+c)+g) ((0+d)+h)"},
		{"0 1 2 / 2 2 2 / a b c d e f g h", 1, "0 2 / 2 2 / ((0+a)+c) ((0+b)+d) ((0+e)+g) ((0+f)+h)"},
		{"0 1 2 / 2 2 2 / a b c d e f g h", 2, "0 1 / 2 2 / ((0+a)+b) ((0+c)+d) ((0+e)+f) ((0+g)+h)"},
		{"0 1 2 / 2 1 2 / a b c d", 1, "0 2 / 2 2 / (0+a) (0+b) (0+c) (0+d)"},
		{"0 9223372036854775807 / 1 2 / a b", math.MaxInt, "0 / 1 / ((0+a)+b)"},
	} {
		check(t, c.a+" without "+strconv.Itoa(c.v), of(factor.Out[string](samples.Strokes{}, words(c.a), c.v)), words(c.want))
	}
}

// summed is a table with a variable summed out, cell by cell, found by looking.
func summed[T any](r ring.Ring[T], a api.Box[T], v int) api.Box[T] {
	scope, sizes := rest(a, v)
	return filled(scope, sizes, func(n naming) T {
		var column []T
		for value := range a.Sizes[slices.Index(a.Scope, v)] {
			column = append(column, find(a, n.with(v, value)))
		}
		return ring.Sum(r, column...)
	})
}

// TestDrawnSums: each cell is where it should be, whichever variable goes.
func TestDrawnSums(t *testing.T) {
	source := rand.New(rand.NewSource(133))
	for range 300 {
		a := drawn(source, 5, letters())
		var r ring.Ring[string] = samples.Strokes{}
		for v := range 8 {
			if slices.Contains(a.Scope, v) {
				check(t, "a sum", of(factor.Out(r, a, v)), summed(r, a, v))
			} else {
				refused(t, "no such variable", of(factor.Out(r, a, v)), api.ErrScope)
			}
		}
	}
}

// TestSumsByRings: each ring adds its own way.
func TestSumsByRings(t *testing.T) {
	cells := []api.Rat{samples.Ratio(1, 2), samples.Ratio(2, 6), samples.Ratio(-1, 4), samples.Ratio(-1, 5)}
	thirds := api.Box[api.Rat]{Scope: []int{0, 1}, Sizes: []int{2, 2}, Cells: cells}
	for _, c := range []struct {
		r    ring.Ring[api.Rat]
		want []string
	}{{ring.Rats{}, []string{"5/6", "-9/20"}}, {ring.Most{}, []string{"1/2", "0"}}} {
		got, code := factor.Out(c.r, thirds, 1)
		if code != api.OK || len(got.Cells) != 2 || frac.Text(got.Cells[0]) != c.want[0] || frac.Text(got.Cells[1]) != c.want[1] {
			t.Errorf("%T: %v, %v", c.r, got, code)
		}
	}
	bools := api.Box[bool]{Scope: []int{4, 6}, Sizes: []int{2, 2}, Cells: []bool{false, true, false, false}}
	check(t, "Bools", of(factor.Out[bool](ring.Bools{}, bools, 6)), api.Box[bool]{Scope: []int{4}, Sizes: []int{2}, Cells: []bool{true, false}})
	floats := api.Box[float64]{Scope: []int{0, 1}, Sizes: []int{2, 3}, Cells: []float64{1e16, 1, 1, 1, 1, 1e16}}
	check(t, "Floats", of(factor.Out[float64](ring.Floats{}, floats, 1)), api.Box[float64]{Scope: []int{0}, Sizes: []int{2}, Cells: []float64{1e16, 1e16 + 2}})
	check(t, "Ints, wrapping round", of(factor.Out(numbers, table("0 / 2 / 9223372036854775807 1"), 0)), table(" / / -9223372036854775808"))
	for _, clock := range []*samples.Clock{nil, {Hours: 12}} {
		check(t, "a ring of no object", of(factor.Out[int](clock, table("0 1 / 2 2 / 5 7 9 11"), 1)), table("0 / 2 / 0 8"))
	}
}

// TestOrderOfErrorsOfOut: ErrNil, Check, ErrScope.
func TestOrderOfErrorsOfOut(t *testing.T) {
	for text, code := range wrong() {
		for _, v := range []int{-1, 0, 1, 9} {
			refused(t, "no ring", of(factor.Out(nil, table(text), v)), api.ErrNil)
			refused(t, text, of(factor.Out(numbers, table(text), v)), code)
		}
	}
	for _, text := range []string{" / / 1", "1 / 2 / 1 2", "1 3 / 1 2 / 1 2"} {
		for _, v := range []int{math.MinInt, -1, 0, 2, 4, math.MaxInt} {
			refused(t, "no ring", of(factor.Out(nil, table(text), v)), api.ErrNil)
			refused(t, text, of(factor.Out(numbers, table(text), v)), api.ErrScope)
		}
	}
	refused(t, "no ring", of(factor.Out(nil, table("1 / 2 / 1 2"), 1)), api.ErrNil)
}

// TestAskedByOut: each cell that is summed is added once, and nothing is
// multiplied.
func TestAskedByOut(t *testing.T) {
	r := newCounting()
	factor.Out[int](r, table("0 1 2 / 2 3 1 / 1 2 3 4 5 6"), 1)
	if !slices.Equal(r.asked(), []int{2, 0, 6, 0, 0}) {
		t.Errorf("asked %v", r.asked())
	}
}

// TestLargeSums: many cells, and the ends of a large table.
func TestLargeSums(t *testing.T) {
	a := api.Box[int]{Scope: []int{0, 1, 2}, Sizes: []int{40, 50, 60}}
	for i := range 40 * 50 * 60 {
		a.Cells = append(a.Cells, i)
	}
	got, code := factor.Out(numbers, a, 1)
	if code != api.OK || !slices.Equal(got.Scope, []int{0, 2}) || !slices.Equal(got.Sizes, []int{40, 60}) || len(got.Cells) != 2400 {
		t.Fatalf("%v / %v / %d cells, %v", got.Scope, got.Sizes, len(got.Cells), code)
	}
	for i, x := range got.Cells {
		// 50 cells from the first one on, each 60 behind the one ahead.
		if want := 50*(i/60*3000+i%60) + 60*(49*50/2); x != want {
			t.Fatalf("cell %d is %d, want %d", i, x, want)
		}
	}
}
