package ring_test

import (
	"math"
	"slices"
	"strings"
	"testing"

	"credence/api"
	"credence/frac"
	"credence/ring"
	"credence/samples"
)

// 12.2: Sum and Product.

// TestOrderOfSums: what is done is done from the left, from Zero or One on, and
// nothing beside it.
func TestOrderOfSums(t *testing.T) {
	for list, want := range map[string][2]string{
		"": {"0", "1"}, "a": {"(0+a)", "(1*a)"}, "a b": {"((0+a)+b)", "((1*a)*b)"}, "b a": {"((0+b)+a)", "((1*b)*a)"},
		"a a a": {"(((0+a)+a)+a)", "(((1*a)*a)*a)"}, "c a b d": {"((((0+c)+a)+b)+d)", "((((1*c)*a)*b)*d)"}, "0 1": {"((0+0)+1)", "((1*0)*1)"},
	} {
		l := strings.Fields(list)
		if s, p := ring.Sum[string](samples.Strokes{}, l...), ring.Product[string](samples.Strokes{}, l...); s != want[0] || p != want[1] {
			t.Errorf("%q: %s, %s, want %s, %s", list, s, p, want[0], want[1])
		}
	}
}

// TestSumsOfNone: nil and no elements are the same.
func TestSumsOfNone(t *testing.T) {
	for _, l := range [][]api.Rat{nil, {}} {
		for _, r := range fractions() {
			checkRat(t, "Sum", ring.Sum(r, l...), read("0"))
			checkRat(t, "Product", ring.Product(r, l...), read("1"))
		}
	}
	checkSlope(t, "Sum", ring.Sum[ring.Slope](ring.Slopes{}), slope("0", "0"))
	checkSlope(t, "Product", ring.Product[ring.Slope](ring.Slopes{}), slope("1", "0"))
	if ring.Sum[bool](ring.Bools{}) || !ring.Product[bool](ring.Bools{}) || ring.Sum[int](ring.Ints{}) != 0 || ring.Product[int](ring.Ints{}) != 1 {
		t.Error("of none, in Bools and Ints")
	}
	if ring.Sum[float64](ring.Floats{}) != 0 || ring.Product[float64](ring.Floats{}) != 1 {
		t.Error("of none, in Floats")
	}
}

// checkNoRing looks for T's zero value.
func checkNoRing[T comparable](t *testing.T, some T) {
	t.Helper()
	var zero T
	for _, l := range [][]T{nil, {some}, {some, some}} {
		if s, p := ring.Sum(nil, l...), ring.Product(nil, l...); s != zero || p != zero {
			t.Errorf("without a ring: %v, %v", s, p)
		}
	}
	for _, n := range []int{math.MinInt, -1, 0, 1, 2, api.MaxPower, api.MaxPower + 1, math.MaxInt} {
		if p, e := ring.Power(nil, some, n); p != zero || e != api.ErrNil {
			t.Errorf("Power without a ring: %v, %v", p, e)
		}
	}
}

// TestNoRing: without a ring there is the zero value alone, whatever the type.
func TestNoRing(t *testing.T) {
	checkNoRing(t, 7)
	checkNoRing(t, "a")
	checkNoRing(t, true)
	checkNoRing(t, 1.5)
	checkNoRing(t, &samples.Clock{})
	checkNoRing(t, [2]string{"a", "b"})
	var rats ring.Ring[api.Rat]
	if !samples.SameLimbs(ring.Sum(rats, read("1/2")), api.Rat{}) || !samples.SameLimbs(ring.Product(rats, read("1/2")), api.Rat{}) {
		t.Error("fractions without a ring")
	}
	p, e := ring.Power(rats, read("1/2"), 2)
	if !samples.SameLimbs(p, api.Rat{}) || e != api.ErrNil {
		t.Errorf("Power of a fraction without a ring: %v, %v", p, e)
	}
}

// TestRingOfNoObject: a ring is one by its methods, also where these belong to
// a nil object.
func TestRingOfNoObject(t *testing.T) {
	for _, r := range []*samples.Clock{nil, {Hours: 12}} {
		p, e := ring.Power[int](r, 5, 2)
		if s, q := ring.Sum[int](r, 7, 8, 9), ring.Product[int](r, 5, 7, 11); s != 0 || q != 1 || p != 1 || e != api.OK {
			t.Errorf("by the clock: %d, %d, %d, %v", s, q, p, e)
		}
	}
}

// TestFloatsFromTheLeft: floats mind the order, and the Zero ahead.
func TestFloatsFromTheLeft(t *testing.T) {
	inf := math.Inf(1)
	low, high := math.Ldexp(1, -700), math.Ldexp(1, 900)
	for _, c := range []struct {
		l            []float64
		sum, product float64
	}{
		{[]float64{1e16, 1, 1}, 1e16, 1e16}, {[]float64{1, 1, 1e16}, 1e16 + 2, 1e16}, {[]float64{1e308, 1e308, -1e308}, inf, -inf}, {[]float64{1e308, -1e308, 1e308}, 1e308, -inf},
		{[]float64{low, low, high}, high, 0}, {[]float64{high, low, low}, high, math.Ldexp(1, -500)}, {[]float64{high, high, low}, 2 * high, inf}, {[]float64{high, low, high}, 2 * high, inf},
		{[]float64{minus0}, 0, minus0}, {[]float64{minus0, minus0}, 0, 0},
	} {
		s, p := ring.Sum[float64](ring.Floats{}, c.l...), ring.Product[float64](ring.Floats{}, c.l...)
		if !alike(s, c.sum) || !alike(p, c.product) {
			t.Errorf("%v: %v, %v, want %v, %v", c.l, s, p, c.sum, c.product)
		}
	}
}

// TestLongLists: many things are added up, and multiplied.
func TestLongLists(t *testing.T) {
	var numbers []int
	var halves []api.Rat
	sum, product := 0, 1
	for n := range 1000 {
		numbers = append(numbers, 2*n+1)
		halves = append(halves, samples.Ratio(1, 2))
		sum, product = sum+2*n+1, product*(2*n+1)
	}
	if s, p := ring.Sum[int](ring.Ints{}, numbers...), ring.Product[int](ring.Ints{}, numbers...); s != sum || s != 1000000 || p != product {
		t.Errorf("Ints: %d, %d", s, p)
	}
	checkRat(t, "Sum of halves", ring.Sum[api.Rat](ring.Rats{}, halves...), read("500"))
	checkRat(t, "the greatest of halves", ring.Sum[api.Rat](ring.Most{}, halves...), read("1/2"))
	checkRat(t, "Product of halves", ring.Product[api.Rat](ring.Rats{}, halves...), long(false, api.Nat{1}, append(make(api.Nat, 1000/32), 1<<(1000%32))))
}

// TestSumsOfRats: by Rats they are those of layer 3; by Most the greatest one,
// or 0.
func TestSumsOfRats(t *testing.T) {
	list := odd()
	for i := range list {
		for j := i; j <= len(list); j++ {
			l := list[i:j]
			checkRat(t, "Sum by Rats", ring.Sum[api.Rat](ring.Rats{}, l...), frac.Sum(l...))
			product, greatest := read("1"), api.Rat{}
			for _, a := range l {
				product = frac.Mul(product, a)
				greatest = slices.MaxFunc([]api.Rat{greatest, a}, frac.Cmp)
			}
			checkRat(t, "Sum by Most", ring.Sum[api.Rat](ring.Most{}, l...), frac.Sum(greatest))
			checkRat(t, "Product by Rats", ring.Product[api.Rat](ring.Rats{}, l...), product)
			checkRat(t, "Product by Most", ring.Product[api.Rat](ring.Most{}, l...), product)
		}
	}
}
