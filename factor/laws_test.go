package factor_test

import (
	"math/rand"
	"slices"
	"testing"

	"credence/api"
	"credence/factor"
	"credence/frac"
	"credence/ring"
	"credence/samples"
)

// 13.7: what follows.

// judge holds tables that should be the same against each other; cell makes the
// cells of tables, and equal says by other means than the ring's whether two are
// the same.
type judge[T any] struct {
	ring.Ring[T]
	cell  func() T
	equal func(a, b T) bool
}

// fine is a table that is answered, which must be one that may be.
func (j judge[T]) fine(t *testing.T, b api.Box[T], code api.Errno) api.Box[T] {
	t.Helper()
	if code != api.OK || factor.Check(b) != api.OK {
		t.Fatalf("%T: %v, %v, which may not be: %v", j.Ring, b, code, factor.Check(b))
	}
	return b
}

// times, out and given are what the calls answer.
func (j judge[T]) times(t *testing.T, a, b api.Box[T]) api.Box[T] {
	t.Helper()
	c, code := factor.Times(j.Ring, a, b)
	return j.fine(t, c, code)
}

func (j judge[T]) out(t *testing.T, a api.Box[T], variables ...int) api.Box[T] {
	t.Helper()
	for _, v := range variables {
		b, code := factor.Out(j.Ring, a, v)
		a = j.fine(t, b, code)
	}
	return a
}

// given is a table with a variable fixed, if it has it.
func (j judge[T]) given(t *testing.T, a api.Box[T], f api.Fix) api.Box[T] {
	t.Helper()
	if !slices.Contains(a.Scope, f.Var) {
		return a
	}
	b, code := factor.Given(a, f)
	return j.fine(t, b, code)
}

// check holds two tables against each other.
func (j judge[T]) check(t *testing.T, what string, a, b api.Box[T]) {
	t.Helper()
	if !factor.Same(j.Ring, a, b) || !slices.Equal(a.Scope, b.Scope) || !slices.Equal(a.Sizes, b.Sizes) || !slices.EqualFunc(a.Cells, b.Cells, j.equal) {
		t.Fatalf("%T: %s: %v and %v", j.Ring, what, a, b)
	}
}

// checkProducts: in any order, any brackets; One of One changes nothing.
func (j judge[T]) checkProducts(t *testing.T, a, b, c api.Box[T]) {
	t.Helper()
	one := factor.One(j.One())
	j.check(t, "a b", j.times(t, a, b), j.times(t, b, a))
	j.check(t, "a b c", j.times(t, j.times(t, a, b), c), j.times(t, a, j.times(t, b, c)))
	j.check(t, "b a c", j.times(t, j.times(t, a, b), c), j.times(t, j.times(t, c, b), a))
	j.check(t, "1 a", j.times(t, one, a), a)
	j.check(t, "a 1", j.times(t, a, one), a)
}

// checkSums: variables are summed out in any order, ahead of a product with what
// does not have them or behind it.
func (j judge[T]) checkSums(t *testing.T, a, b api.Box[T]) {
	t.Helper()
	product := j.times(t, a, b)
	for _, v := range product.Scope {
		for _, w := range product.Scope {
			if v != w {
				j.check(t, "two sums", j.out(t, product, v, w), j.out(t, product, w, v))
			}
		}
		if !slices.Contains(b.Scope, v) {
			j.check(t, "b behind the sum", j.out(t, product, v), j.times(t, j.out(t, a, v), b))
		}
		if !slices.Contains(a.Scope, v) {
			j.check(t, "a behind the sum", j.out(t, product, v), j.times(t, a, j.out(t, b, v)))
		}
	}
}

// checkFixes: a product with a variable fixed is the product of what has it
// fixed; what is fixed and what is summed out do not mind each other.
func (j judge[T]) checkFixes(t *testing.T, a, b api.Box[T]) {
	t.Helper()
	product := j.times(t, a, b)
	for _, v := range product.Scope {
		for value := range sizes(v) {
			f := fix(v, value)
			less := j.given(t, product, f)
			j.check(t, "fixed", less, j.times(t, j.given(t, a, f), j.given(t, b, f)))
			for _, w := range less.Scope {
				j.check(t, "fixed and summed", j.out(t, less, w), j.given(t, j.out(t, product, w), f))
				j.check(t, "two fixed", j.given(t, less, fix(w, sizes(w)-1)), j.given(t, j.given(t, product, fix(w, sizes(w)-1)), f))
			}
		}
	}
}

// total is the sum over all choices of the products of all tables' cells, by the
// ring alone.
func (j judge[T]) total(tables []api.Box[T]) T {
	var all api.Box[T]
	for _, b := range tables {
		all.Scope, all.Sizes = either(all, b)
	}
	sum := j.Zero()
	for _, values := range choices(all.Sizes) {
		part := j.One()
		for _, b := range tables {
			part = j.Mul(part, find(b, named(all.Scope, values)))
		}
		sum = j.Add(sum, part)
	}
	return sum
}

// checkTotal: tables multiplied and summed out, in whatever order, come to the
// same.
func (j judge[T]) checkTotal(t *testing.T, source *rand.Rand, tables ...api.Box[T]) {
	t.Helper()
	want := factor.One(j.total(tables))
	for range 3 {
		source.Shuffle(len(tables), func(a, b int) { tables[a], tables[b] = tables[b], tables[a] })
		all := factor.One(j.One())
		for _, b := range tables {
			all = j.times(t, all, b)
		}
		order := slices.Clone(all.Scope)
		source.Shuffle(len(order), func(a, b int) { order[a], order[b] = order[b], order[a] })
		j.check(t, "all at once", j.out(t, all, order...), want)
		j.check(t, "one after the other", j.eliminated(t, slices.Clone(tables), order), want)
	}
}

// eliminated is what remains when each variable is summed out of the product of
// those tables alone that have it.
func (j judge[T]) eliminated(t *testing.T, tables []api.Box[T], order []int) api.Box[T] {
	t.Helper()
	for _, v := range order {
		have, others := factor.One(j.One()), []api.Box[T]{}
		for _, b := range tables {
			if slices.Contains(b.Scope, v) {
				have = j.times(t, have, b)
			} else {
				others = append(others, b)
			}
		}
		tables = append(others, j.out(t, have, v))
	}
	all := factor.One(j.One())
	for _, b := range tables {
		all = j.times(t, all, b)
	}
	return all
}

// checkLaws: all that follows, of drawn tables.
func (j judge[T]) checkLaws(t *testing.T, source *rand.Rand, times int) {
	t.Helper()
	for range times {
		a, b, c := drawn(source, 3, j.cell), drawn(source, 3, j.cell), drawn(source, 2, j.cell)
		j.checkProducts(t, a, b, c)
		j.checkSums(t, a, b)
		j.checkFixes(t, a, b)
		j.checkTotal(t, source, a, b, c)
	}
}

// fraction draws fractions, normal and not, with numbers from low on over small
// ones.
func fraction(source *rand.Rand, low int) func() api.Rat {
	return func() api.Rat { return samples.Ratio(source.Intn(9)+low, source.Intn(4)) }
}

// sameNumbers is whether two fractions are the same as texts.
func sameNumbers(a, b api.Rat) bool { return frac.Text(a) == frac.Text(b) }

func TestLawsByRats(t *testing.T) {
	source := rand.New(rand.NewSource(1371))
	judge[api.Rat]{ring.Rats{}, fraction(source, -4), sameNumbers}.checkLaws(t, source, 25)
}

// TestLawsByMost: among numbers that are not below 0.
func TestLawsByMost(t *testing.T) {
	source := rand.New(rand.NewSource(1372))
	judge[api.Rat]{ring.Most{}, fraction(source, 0), sameNumbers}.checkLaws(t, source, 25)
}

func TestLawsByBools(t *testing.T) {
	source := rand.New(rand.NewSource(1373))
	draw := func() bool { return source.Intn(3) > 0 }
	judge[bool]{ring.Bools{}, draw, func(a, b bool) bool { return a == b }}.checkLaws(t, source, 60)
}

func TestLawsByInts(t *testing.T) {
	source := rand.New(rand.NewSource(1374))
	draw := func() int { return int(source.Uint64()) >> source.Intn(64) }
	judge[int]{ring.Ints{}, draw, func(a, b int) bool { return a == b }}.checkLaws(t, source, 60)
}

func TestLawsBySlopes(t *testing.T) {
	source := rand.New(rand.NewSource(1375))
	number := fraction(source, -4)
	draw := func() ring.Slope { return ring.Slope{At: number(), By: number()} }
	equal := func(a, b ring.Slope) bool { return sameNumbers(a.At, b.At) && sameNumbers(a.By, b.By) }
	judge[ring.Slope]{ring.Slopes{}, draw, equal}.checkLaws(t, source, 10)
}
