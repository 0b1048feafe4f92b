package near_test

import (
	"math"
	"slices"
	"testing"

	"credence/api"
	"credence/frac"
	"credence/near"
)

// 5.5: what follows (W14 of the whole is among it).

// TestThereAndBack: a float's fraction has the float as its nearest one.
func TestThereAndBack(t *testing.T) {
	for _, f := range doubles() {
		for _, x := range []float64{f, -f} {
			a, _ := near.Of(x)
			checkNearest(t, a, x+0)
			checkAround(t, a, x+0, x+0)
		}
	}
	for _, f := range singles() {
		for _, x := range []float32{f, -f} {
			a, _ := near.Of(x)
			checkSingle(t, a, x+0)
		}
	}
}

// atlas are fractions of all kinds, rising.
func atlas(t *testing.T) []api.Rat {
	list := fractions()
	for _, f := range doubles() {
		a := value(t, f, 64)
		list = append(list, a, frac.Neg(a), frac.Add(a, two(-1100)), frac.Mul(a, of(-2, 3)))
	}
	for _, n := range []int{1023, 1024, 1025, -1073, -1074, -1075, -1076, 127, 128, 129, -148, -149, -150, -151} {
		list = append(list, two(n), frac.Neg(two(n)), frac.Mul(two(n), of(5, 7)))
	}
	slices.SortFunc(list, frac.Cmp)
	return list
}

// TestNoFloatIsNearer: Nearest is one of Around's two, and the other one is
// not nearer; nor can be another float, since these are neighbours.
func TestNoFloatIsNearer(t *testing.T) {
	for _, a := range atlas(t) {
		low, high := near.Around(a)
		if !neighbours(t, a, low, high) {
			t.Fatalf("Around(%s): %v, %v", frac.Text(a), low, high)
		}
		got := near.Nearest(a)
		if got != low && got != high {
			t.Fatalf("Nearest(%s): %v, which is not around it", frac.Text(a), got)
		}
		far := apart(a, value(t, got, 64))
		for _, f := range []float64{low, high} {
			if frac.Cmp(far, apart(a, value(t, f, 64))) > 0 {
				t.Fatalf("Nearest(%s): %v, but %v is nearer", frac.Text(a), got, f)
			}
		}
	}
}

// neighbours is whether two floats are one, a fraction's own, or lie on both
// sides of it without another one between them.
func neighbours(t *testing.T, a api.Rat, low, high float64) bool {
	t.Helper()
	if low == high {
		return !math.IsInf(low, 0) && frac.Cmp(a, value(t, low, 64)) == 0
	}
	under := math.IsInf(low, -1) || frac.Cmp(value(t, low, 64), a) < 0
	over := math.IsInf(high, 1) || frac.Cmp(a, value(t, high, 64)) < 0
	return under && over && math.Nextafter(low, math.Inf(1)) == high
}

// TestNoSingleIsNearer: likewise of 32 bits, by the neighbours of what is told.
func TestNoSingleIsNearer(t *testing.T) {
	for _, a := range atlas(t) {
		got := near.Single(a)
		far := apart(a, value(t, float64(got), 32))
		for _, end := range []float64{math.Inf(-1), math.Inf(1)} {
			f := math.Nextafter32(got, float32(end))
			if frac.Cmp(far, apart(a, value(t, float64(f), 32))) > 0 {
				t.Fatalf("Single(%s): %v, but %v is nearer", frac.Text(a), got, f)
			}
		}
	}
}

// TestGreaterIsNotLess: a greater fraction never has a lesser float.
func TestGreaterIsNotLess(t *testing.T) {
	list := atlas(t)
	for i, a := range list[1:] {
		low, high := near.Around(a)
		less, more := near.Around(list[i])
		if low < less || high < more || near.Nearest(a) < near.Nearest(list[i]) || near.Single(a) < near.Single(list[i]) {
			t.Fatalf("%s is greater than %s, but a float of it is less", frac.Text(a), frac.Text(list[i]))
		}
	}
}

// TestOpposites: the opposite has the opposite float, and nought has no side.
func TestOpposites(t *testing.T) {
	for _, a := range atlas(t) {
		low, high := near.Around(a)
		checkNearest(t, frac.Neg(a), 0-near.Nearest(a))
		checkSingle(t, frac.Neg(a), 0-near.Single(a))
		checkAround(t, frac.Neg(a), 0-high, 0-low)
	}
}

// TestOrderIsAnOrder: of any two the one way is the opposite of the other, and
// what is not above something is not above what that is not above.
func TestOrderIsAnOrder(t *testing.T) {
	list := []float64{math.NaN(), -math.NaN(), math.Inf(1), math.Inf(-1), 0, math.Copysign(0, -1), 1, -1, math.MaxFloat64, math.SmallestNonzeroFloat64, -math.SmallestNonzeroFloat64}
	for _, a := range list {
		for _, b := range list {
			if near.Order(a, b) != -near.Order(b, a) {
				t.Fatalf("Order(%v, %v) and back", a, b)
			}
			for _, c := range list {
				if near.Order(a, b) <= 0 && near.Order(b, c) <= 0 && near.Order(a, c) > 0 {
					t.Fatalf("Order of %v, %v, %v", a, b, c)
				}
			}
		}
	}
}
