package ring_test

import (
	"math"
	"strings"
	"testing"

	"credence/api"
	"credence/nat"
	"credence/ring"
	"credence/samples"
)

// 12.3: Power.

// power is a power that there should be.
func power[T any](t *testing.T, r ring.Ring[T], a T, n int) T {
	t.Helper()
	p, e := ring.Power(r, a, n)
	if e != api.OK {
		t.Fatalf("Power(%v, %d): %v", a, n, e)
	}
	return p
}

// TestOrderOfPowers: One is multiplied n times, from the left.
func TestOrderOfPowers(t *testing.T) {
	for _, n := range []int{0, 1, 2, 3, 4, 7, 8, 1023, api.MaxPower} {
		want := strings.Repeat("(", n) + "1" + strings.Repeat("*a)", n)
		if got := power[string](t, samples.Strokes{}, "a", n); got != want {
			t.Errorf("n = %d: %.80s", n, got)
		}
	}
}

// outside are exponents that may not be.
func outside() []int {
	return []int{-1, -2, -1024, math.MinInt, math.MinInt + 1, api.MaxPower + 1, 1 << 20, 1 << 32, 1<<32 + 1, math.MaxInt}
}

// checkOutside looks for ErrRange, and for T's zero value beside it.
func checkOutside[T any](t *testing.T, r ring.Ring[T], a T, isZero func(T) bool) {
	t.Helper()
	for _, n := range outside() {
		if p, e := ring.Power(r, a, n); e != api.ErrRange || !isZero(p) {
			t.Errorf("Power(%v, %d): %v, %v", a, n, p, e)
		}
	}
}

func TestPowersOutside(t *testing.T) {
	noRat := func(a api.Rat) bool { return samples.SameLimbs(a, api.Rat{}) }
	for _, r := range fractions() {
		checkOutside(t, r, read("0"), noRat)
		checkOutside(t, r, read("1"), noRat)
		checkOutside(t, r, read("-2/3"), noRat)
	}
	checkOutside(t, ring.Slopes{}, slope("1", "1"), func(a ring.Slope) bool { return sameSlope(a, ring.Slope{}) })
	checkOutside(t, ring.Bools{}, true, func(a bool) bool { return !a })
	checkOutside(t, ring.Ints{}, 1, func(a int) bool { return a == 0 })
	checkOutside(t, ring.Floats{}, 1, func(a float64) bool { return alike(a, 0) })
	checkOutside(t, samples.Strokes{}, "a", func(a string) bool { return a == "" })
}

// TestPowersOfRats: those of both sides of the stroke.
func TestPowersOfRats(t *testing.T) {
	for _, r := range fractions() {
		for _, n := range []int{0, 1, 2, 3, 31, 32, 33, 100, 1023, api.MaxPower} {
			twos, e := nat.Pow(nat.Of(2), n)
			threes, f := nat.Pow(nat.Of(3), n)
			if e != api.OK || f != api.OK {
				t.Fatalf("Pow: %v, %v", e, f)
			}
			checkRat(t, "2/3", power(t, r, samples.Ratio(4, 6), n), long(false, twos, threes))
			checkRat(t, "-3/2", power(t, r, samples.Ratio(-3, 2), n), long(n%2 == 1, threes, twos))
			checkRat(t, "3", power(t, r, samples.Ratio(3, 0), n), long(false, threes, api.Nat{1}))
			checkRat(t, "1", power(t, r, samples.Ratio(7, 7), n), read("1"))
		}
		for _, zero := range zeros() {
			checkRat(t, "0, not once", power(t, r, zero, 0), read("1"))
			checkRat(t, "0, once", power(t, r, zero, 1), read("0"))
			checkRat(t, "0, often", power(t, r, zero, api.MaxPower), read("0"))
		}
	}
}

func TestPowersOfPlainRings(t *testing.T) {
	for _, c := range []struct{ a, n, want int }{
		{0, 0, 1}, {0, 1, 0}, {2, 62, 1 << 62}, {2, 63, math.MinInt}, {2, 64, 0}, {-2, 63, math.MinInt}, {-1, 1023, -1}, {-1, api.MaxPower, 1}, {10, 18, 1000000000000000000},
		{3, 40, 12157665459056928801 - 1<<64}, {math.MaxInt, 2, 1}, {math.MinInt, 2, 0}, {1, api.MaxPower, 1},
	} {
		if got := power[int](t, ring.Ints{}, c.a, c.n); got != c.want {
			t.Errorf("Power(%d, %d): %d, want %d", c.a, c.n, got, c.want)
		}
	}
	for _, n := range []int{0, 1, 2, api.MaxPower} {
		if !power[bool](t, ring.Bools{}, true, n) || power[bool](t, ring.Bools{}, false, n) != (n == 0) {
			t.Errorf("Bools, %d times", n)
		}
	}
}

// TestPowersOfFloats: each product is rounded, from the left; by squares some
// would be others.
func TestPowersOfFloats(t *testing.T) {
	others := 0
	for _, a := range []float64{1.1, -1.7, 0.3, 1.0 / 3, 1e10, 1e-10, math.Inf(-1), 0, minus0} {
		want := 1.0
		for n := range 40 {
			if got := power[float64](t, ring.Floats{}, a, n); !alike(got, want) {
				t.Errorf("Power(%v, %d): %v, want %v", a, n, got, want)
			}
			if half := power[float64](t, ring.Floats{}, a, n/2); n%2 == 0 && !alike(float64(half*half), want) {
				others++
			}
			want = float64(want * a)
		}
	}
	if others == 0 {
		t.Error("no power would be another one by squares")
	}
	if got := power[float64](t, ring.Floats{}, math.NaN(), 0); got != 1 {
		t.Errorf("what is no number, not once: %v", got)
	}
	if got := power[float64](t, ring.Floats{}, 2, api.MaxPower); !math.IsInf(got, 1) {
		t.Errorf("2, 1024 times: %v", got)
	}
}

// TestPowersOfSlopes: x n times is x^n, and grows by n x^(n - 1).
func TestPowersOfSlopes(t *testing.T) {
	var rats ring.Ring[api.Rat] = ring.Rats{}
	for _, x := range readAll("0", "1", "-1", "2", "-2/3", "5/7") {
		for _, n := range []int{0, 1, 2, 3, 10, 33, 200} {
			want := ring.Slope{At: power(t, rats, x, n), By: read("0")}
			if n > 0 {
				want.By = rats.Mul(samples.Ratio(n, 1), power(t, rats, x, n-1))
			}
			checkSlope(t, "Power", power[ring.Slope](t, ring.Slopes{}, ring.Slope{At: x, By: read("1")}, n), want)
		}
	}
	checkSlope(t, "of 1 that grows", power[ring.Slope](t, ring.Slopes{}, slope("1", "1/2"), api.MaxPower), slope("1", "512"))
}
