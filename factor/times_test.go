package factor_test

import (
	"math"
	"math/rand"
	"slices"
	"testing"

	"credence/api"
	"credence/factor"
	"credence/ring"
	"credence/samples"
)

// 13.2: Times.

// TestExamplesOfTimes: the chapter's rows.
func TestExamplesOfTimes(t *testing.T) {
	for _, c := range []struct {
		a, b, want string
		code       api.Errno
	}{
		{"0 / 2 / 1 2", "1 / 2 / 3 4", "0 1 / 2 2 / 3 4 6 8", api.OK},
		{"1 / 2 / 3 4", "0 / 2 / 1 2", "0 1 / 2 2 / 3 4 6 8", api.OK},
		{"0 1 / 2 2 / 1 2 3 4", "1 / 2 / 5 6", "0 1 / 2 2 / 5 12 15 24", api.OK},
		{"0 / 2 / 1 2", "0 / 3 / 1 2 3", "//", api.ErrScope},
	} {
		expect(t, c.a+" and "+c.b, of(factor.Times(numbers, table(c.a), table(c.b))), table(c.want), c.code)
	}
	refused(t, "by no ring", of(factor.Times(nil, table("0 / 2 / 1 2"), table("0 / 3 / 1 2 3"))), api.ErrNil)
}

// TestStrokesOfTimes: each cell is one product, of a's cell and b's, in this
// order.
func TestStrokesOfTimes(t *testing.T) {
	for _, c := range []struct{ a, b, want string }{
		{" / / a", " / / b", " / / (a*b)"},
		{" / / a", "5 / 2 / b c", "5 / 2 / (a*b) (a*c)"},
		{"5 / 2 / b c", " / / a", "5 / 2 / (b*a) (c*a)"},
		{"0 / 2 / a b", "0 / 2 / c d", "0 / 2 / (a*c) (b*d)"},
		{"0 / 1 / a", "0 / 1 / b", "0 / 1 / (a*b)"},
		{"0 2 / 2 2 / a b c d", "1 / 2 / e f", "0 1 2 / 2 2 2 / (a*e) (b*e) (a*f) (b*f) (c*e) (d*e) (c*f) (d*f)"},
		{"1 / 2 / e f", "0 2 / 2 2 / a b c d", "0 1 2 / 2 2 2 / (e*a) (e*b) (f*a) (f*b) (e*c) (e*d) (f*c) (f*d)"},
		{"3 7 / 2 2 / a b c d", "3 9 / 2 1 / e f", "3 7 9 / 2 2 1 / (a*e) (b*e) (c*f) (d*f)"},
		{"0 1 / 1 2 / a b", "1 2 / 2 3 / c d e f g h", "0 1 2 / 1 2 3 / (a*c) (a*d) (a*e) (b*f) (b*g) (b*h)"},
		{"0 9223372036854775807 / 2 1 / a b", "1 / 1 / c", "0 1 9223372036854775807 / 2 1 1 / (a*c) (b*c)"},
	} {
		check(t, c.a+" and "+c.b, of(factor.Times[string](samples.Strokes{}, words(c.a), words(c.b))), words(c.want))
	}
}

// product is the product of two tables, cell by cell, found by looking.
func product[T any](r ring.Ring[T], a, b api.Box[T]) api.Box[T] {
	scope, sizes := either(a, b)
	return filled(scope, sizes, func(n naming) T { return r.Mul(find(a, n), find(b, n)) })
}

// TestDrawnProducts: each cell is where it should be.
func TestDrawnProducts(t *testing.T) {
	source := rand.New(rand.NewSource(132))
	for range 400 {
		a, b := drawn(source, 4, letters()), drawn(source, 4, letters())
		var r ring.Ring[string] = samples.Strokes{}
		check(t, "a product", of(factor.Times(r, a, b)), product(r, a, b))
		check(t, "a product with itself", of(factor.Times(r, a, a)), product(r, a, a))
	}
}

// TestProductsByRings: each ring multiplies its own way.
func TestProductsByRings(t *testing.T) {
	bools := func(cells ...bool) api.Box[bool] {
		return api.Box[bool]{Scope: []int{0}, Sizes: []int{len(cells)}, Cells: cells}
	}
	check(t, "Bools", of(factor.Times[bool](ring.Bools{}, bools(false, true, false, true), bools(false, false, true, true))), bools(false, false, false, true))
	floats := func(cells ...float64) api.Box[float64] {
		return api.Box[float64]{Scope: []int{0}, Sizes: []int{len(cells)}, Cells: cells}
	}
	check(t, "Floats", of(factor.Times[float64](ring.Floats{}, floats(0.1, 1e200, math.Inf(1)), floats(3, 1e200, -1))), floats(0.30000000000000004, math.Inf(1), math.Inf(-1)))
	check(t, "Ints, wrapping round", of(factor.Times(numbers, table("0 / 2 / 4611686018427387904 9223372036854775807"), table("0 / 2 / 4 2"))), table("0 / 2 / 0 -2"))
	for _, clock := range []*samples.Clock{nil, {Hours: 12}} {
		check(t, "a ring of no object", of(factor.Times[int](clock, table("0 / 2 / 5 7"), table("0 / 2 / 7 8"))), table("0 / 2 / 11 8"))
	}
}

// TestOrderOfErrorsOfTimes: ErrNil, Check of the first, Check of the second,
// ErrScope, ErrMany.
func TestOrderOfErrorsOfTimes(t *testing.T) {
	fine := table("0 / 2 / 1 2")
	for first, code := range wrong() {
		refused(t, "no ring", of(factor.Times(nil, table(first), fine)), api.ErrNil)
		refused(t, "no ring", of(factor.Times(nil, fine, table(first))), api.ErrNil)
		refused(t, first, of(factor.Times(numbers, table(first), fine)), code)
		refused(t, first, of(factor.Times(numbers, fine, table(first))), code)
		for second := range wrong() {
			refused(t, first+" and "+second, of(factor.Times(numbers, table(first), table(second))), code)
		}
	}
	refused(t, "no ring", of(factor.Times(nil, fine, fine)), api.ErrNil)
}

// TestOtherSizes: a variable that both have must have one size, whichever it is
// of theirs, and whatever the others are.
func TestOtherSizes(t *testing.T) {
	for _, c := range []struct{ a, b string }{
		{"0 / 2 / 1 2", "0 / 1 / 1"}, {"0 / 1 / 1", "0 / 2 / 1 2"}, {"0 1 / 2 2 / 1 2 3 4", "1 / 1 / 1"}, {"0 1 / 2 2 / 1 2 3 4", "0 1 / 2 1 / 1 2"}, {"0 1 / 2 2 / 1 2 3 4", "0 1 / 1 2 / 1 2"},
		{"0 1 2 / 1 1 2 / 1 2", "2 3 / 3 1 / 1 2 3"}, {"0 1 / 2 3 / 1 2 3 4 5 6", "0 1 / 3 2 / 1 2 3 4 5 6"},
	} {
		refused(t, c.a+" and "+c.b, of(factor.Times(numbers, table(c.a), table(c.b))), api.ErrScope)
	}
}

// nothing is a ring of the one thing that needs no room.
type nothing struct{}

func (nothing) Zero() struct{}             { return struct{}{} }
func (nothing) One() struct{}              { return struct{}{} }
func (nothing) Add(a, b struct{}) struct{} { return struct{}{} }
func (nothing) Mul(a, b struct{}) struct{} { return struct{}{} }
func (nothing) Same(a, b struct{}) bool    { return true }

// empty is a table of what needs no room.
func empty(scope, sizes string) api.Box[struct{}] {
	b := api.Box[struct{}]{Scope: list(scope), Sizes: list(sizes)}
	count := 1
	for _, n := range b.Sizes {
		count *= n
	}
	b.Cells = make([]struct{}, count)
	return b
}

// TestTooManyCells: what would have more than MaxCount cells is refused, behind
// sizes that do not agree, and at once.
func TestTooManyCells(t *testing.T) {
	for _, c := range []struct {
		a, b api.Box[struct{}]
		code api.Errno
	}{
		{empty("0", "65536"), empty("1", "65536"), api.ErrMany}, {empty("0", "46341"), empty("1", "46341"), api.ErrMany}, {empty("0", "2147483647"), empty("1", "2147483647"), api.ErrMany},
		{empty("0", "2147483647"), empty("1", "2"), api.ErrMany}, {empty("1", "2"), empty("0", "2147483647"), api.ErrMany}, {empty("0 1", "65536 2"), empty("1 2", "2 65536"), api.ErrMany},
		{empty("0", "1073741824"), empty("1", "2"), api.ErrMany}, {empty("0 2", "65536 2"), empty("1 2", "65536 3"), api.ErrScope}, {empty("0 1", "2 65536"), empty("0 2", "3 65536"), api.ErrScope},
		{empty("0 1", "2147483647 1"), empty("1 2", "2 2"), api.ErrScope},
	} {
		refused(t, "too many", of(factor.Times[struct{}](nothing{}, c.a, c.b)), c.code)
	}
	// As many as both have together are not too many where they share a variable.
	got, code := factor.Times[struct{}](nothing{}, empty("0 1", "1 65536"), empty("1 2", "65536 1"))
	if code != api.OK || len(got.Cells) != 65536 {
		t.Errorf("a shared one: %d cells, %v", len(got.Cells), code)
	}
}

// counting is a ring that counts what is asked of it.
type counting struct{ zero, one, add, mul, same *int }

func newCounting() counting {
	return counting{new(int), new(int), new(int), new(int), new(int)}
}

func (c counting) Zero() int          { *c.zero++; return 0 }
func (c counting) One() int           { *c.one++; return 1 }
func (c counting) Add(a, b int) int   { *c.add++; return a + b }
func (c counting) Mul(a, b int) int   { *c.mul++; return a * b }
func (c counting) Same(a, b int) bool { *c.same++; return a == b }

// asked are the numbers of calls: Zero, One, Add, Mul, Same.
func (c counting) asked() []int { return []int{*c.zero, *c.one, *c.add, *c.mul, *c.same} }

// TestAskedByTimes: each cell is one multiplication, and nothing else is asked.
func TestAskedByTimes(t *testing.T) {
	for _, c := range []struct {
		a, b string
		want int
	}{{" / / 1", " / / 2", 1}, {"0 / 2 / 1 2", "1 / 3 / 1 2 3", 6}, {"0 1 / 2 2 / 1 2 3 4", "1 / 2 / 5 6", 4}, {"0 / 2 / 1 2", "0 / 3 / 1 2 3", 0}} {
		r := newCounting()
		factor.Times[int](r, table(c.a), table(c.b))
		if !slices.Equal(r.asked(), []int{0, 0, 0, c.want, 0}) {
			t.Errorf("%s and %s: asked %v", c.a, c.b, r.asked())
		}
	}
}

// TestLargeProducts: many cells, and many variables of one value.
func TestLargeProducts(t *testing.T) {
	a, b := api.Box[int]{Scope: []int{0, 2}, Sizes: []int{300, 3}}, api.Box[int]{Scope: []int{1, 2}, Sizes: []int{200, 3}}
	for i := range 900 {
		a.Cells = append(a.Cells, i)
	}
	for i := range 600 {
		b.Cells = append(b.Cells, i+7)
	}
	got, code := factor.Times(numbers, a, b)
	if code != api.OK || len(got.Cells) != 180000 || !slices.Equal(got.Scope, []int{0, 1, 2}) || !slices.Equal(got.Sizes, []int{300, 200, 3}) {
		t.Fatalf("%v / %v / %d cells, %v", got.Scope, got.Sizes, len(got.Cells), code)
	}
	for i, x := range got.Cells {
		if want := (i/600*3 + i%3) * (i%600 + 7); x != want {
			t.Fatalf("cell %d is %d, want %d", i, x, want)
		}
	}
	var even, odd api.Box[int]
	for v := range 5000 {
		even.Scope, even.Sizes = append(even.Scope, 2*v), append(even.Sizes, 1)
		odd.Scope, odd.Sizes = append(odd.Scope, 2*v+1), append(odd.Sizes, 1)
	}
	even.Cells, odd.Cells = []int{6}, []int{7, 8}
	odd.Sizes[2500] = 2
	all, code := factor.Times(numbers, even, odd)
	if code != api.OK || len(all.Scope) != 10000 || !slices.IsSorted(all.Scope) || all.Sizes[5001] != 2 || !slices.Equal(all.Cells, []int{42, 48}) {
		t.Errorf("many variables: %d, %v, %v", len(all.Scope), all.Cells, code)
	}
}
