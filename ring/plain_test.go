package ring_test

import (
	"math"
	"math/bits"
	"testing"

	"credence/api"
	"credence/frac"
	"credence/near"
	"credence/ring"
	"credence/samples"
)

// 12.1: Bools, Ints and Floats.

func TestBools(t *testing.T) {
	r := ring.Bools{}
	if r.Zero() || !r.One() {
		t.Errorf("the ends: %v, %v", r.Zero(), r.One())
	}
	for _, c := range []struct{ a, b, either, both, same bool }{
		{false, false, false, false, true}, {false, true, true, false, false}, {true, false, true, false, false}, {true, true, true, true, true},
	} {
		if r.Add(c.a, c.b) != c.either || r.Mul(c.a, c.b) != c.both || r.Same(c.a, c.b) != c.same {
			t.Errorf("%v and %v: %v, %v, %v", c.a, c.b, r.Add(c.a, c.b), r.Mul(c.a, c.b), r.Same(c.a, c.b))
		}
	}
}

// ints are those at which something wraps round, and others.
func ints() []int {
	list := []int{0, 1, -1, 2, 3, -7, 10, 1 << 31, 1<<32 - 1, -1 << 33, 1 << 62, -1 << 62, math.MaxInt, math.MaxInt - 1, math.MinInt, math.MinInt + 1, 3037000499, 3037000500}
	for _, limbs := range samples.Nats(10, 1) {
		list = append(list, int(limbs[0])*0x9e3779b97f4a7c1)
	}
	return list
}

// TestInts: sums and products are the lower 64 bits of the true ones.
func TestInts(t *testing.T) {
	r := ring.Ints{}
	if r.Zero() != 0 || r.One() != 1 {
		t.Errorf("the ends: %d, %d", r.Zero(), r.One())
	}
	for _, a := range ints() {
		for _, b := range ints() {
			sum, _ := bits.Add64(uint64(a), uint64(b), 0)
			_, product := bits.Mul64(uint64(a), uint64(b))
			if r.Add(a, b) != int(sum) || r.Mul(a, b) != int(product) {
				t.Fatalf("%d and %d: %d, %d, want %d, %d", a, b, r.Add(a, b), r.Mul(a, b), int(sum), int(product))
			}
			checkSame[int](t, r, a, b, uint64(a)^uint64(b) == 0)
		}
	}
	if r.Add(math.MinInt, -1) != math.MaxInt || r.Mul(math.MinInt, -1) != math.MinInt || r.Mul(math.MaxInt, 2) != -2 {
		t.Error("ints do not wrap round")
	}
}

// minus0 is -0.
var minus0 = math.Copysign(0, -1)

// finite are floats that are numbers: those at which something begins or ends,
// and others.
func finite() []float64 {
	list := []float64{0, 1, 2, 0.1, 0.3, 1.0 / 3, 3, 1e16, 1e-16, 1 + 1.0/(1<<30), 1e308, math.MaxFloat64, math.SmallestNonzeroFloat64, 5e-324 * 3, 1e-162, 2.2250738585072014e-308, 1e154, 1.3407807929942597e154}
	for _, f := range list {
		list = append(list, -f)
	}
	return append(list, minus0)
}

// exact is what a float is just.
func exact(t *testing.T, f float64) api.Rat {
	t.Helper()
	a, e := near.Of(f)
	if e != api.OK {
		t.Fatalf("Of(%v): %v", f, e)
	}
	return a
}

// TestFiniteFloats: sums and products are the floats that are nearest to the
// true ones.
func TestFiniteFloats(t *testing.T) {
	r := ring.Floats{}
	for _, a := range finite() {
		for _, b := range finite() {
			x, y := exact(t, a), exact(t, b)
			sum, product := r.Add(a, b), r.Mul(a, b)
			if sum != near.Nearest(frac.Add(x, y)) || product != near.Nearest(frac.Mul(x, y)) {
				t.Fatalf("%v and %v: %v, %v", a, b, sum, product)
			}
			// A sum of noughts alone may be -0; a product has the sign of both.
			if sum == 0 && math.Signbit(sum) != (a == 0 && math.Signbit(a) && math.Signbit(b)) || math.Signbit(product) != (math.Signbit(a) != math.Signbit(b)) {
				t.Fatalf("%v and %v: the signs of %v, %v", a, b, sum, product)
			}
			checkSame[float64](t, r, a, b, frac.Cmp(x, y) == 0)
		}
	}
}

// TestOtherFloats: infinities, and what is no number.
func TestOtherFloats(t *testing.T) {
	r := ring.Floats{}
	inf, nan := math.Inf(1), math.NaN()
	if z, one := r.Zero(), r.One(); z != 0 || math.Signbit(z) || one != 1 {
		t.Errorf("the ends: %v, %v", z, one)
	}
	for _, c := range []struct {
		a, b, sum, product float64
		same               bool
	}{
		{inf, 1, inf, inf, false}, {inf, -1, inf, -inf, false}, {inf, inf, inf, inf, true}, {inf, -inf, nan, -inf, false}, {-inf, -inf, -inf, inf, true},
		{inf, 0, inf, nan, false}, {-inf, minus0, -inf, nan, false}, {nan, 0, nan, nan, false}, {nan, inf, nan, nan, false}, {nan, nan, nan, nan, true},
		{nan, math.Float64frombits(0xfff8000000000002), nan, nan, true}, {math.MaxFloat64, math.MaxFloat64, inf, inf, true}, {0, minus0, 0, minus0, true},
	} {
		for range 2 {
			sum, product := r.Add(c.a, c.b), r.Mul(c.a, c.b)
			if !alike(sum, c.sum) || !alike(product, c.product) {
				t.Errorf("%v and %v: %v, %v, want %v, %v", c.a, c.b, sum, product, c.sum, c.product)
			}
			checkSame[float64](t, r, c.a, c.b, c.same)
			c.a, c.b = c.b, c.a
		}
	}
}

// alike is whether two floats have the same bits, or are both no numbers.
func alike(a, b float64) bool {
	return math.IsNaN(a) && math.IsNaN(b) || math.Float64bits(a) == math.Float64bits(b)
}

// TestFloatsAreNotFused: a product is rounded before it goes into a sum (R8);
// what is fused would tell the part that is rounded off, 2^-60.
func TestFloatsAreNotFused(t *testing.T) {
	r := ring.Floats{}
	for _, x := range []float64{1 + 1.0/(1<<30), 1 - 1.0/(1<<30), 3 + 1.0/(1<<30)} {
		rounded := near.Nearest(frac.Mul(exact(t, x), exact(t, x)))
		if math.FMA(x, x, -rounded) == 0 {
			t.Fatalf("%v: nothing is rounded off", x)
		}
		if got := r.Add(r.Mul(x, x), -rounded); got != 0 {
			t.Errorf("%v: %v is left", x, got)
		}
		if got := r.Add(-rounded, r.Mul(x, x)); got != 0 {
			t.Errorf("%v: %v is left, the other way", x, got)
		}
	}
}
