package ring_test

import (
	"testing"

	"credence/api"
	"credence/frac"
	"credence/ring"
	"credence/samples"
)

// 12.1: Slopes.

func TestEndsOfSlopes(t *testing.T) {
	r := ring.Slopes{}
	nought := long(false, nil, api.Nat{1})
	checkSlope(t, "Zero", r.Zero(), ring.Slope{At: nought, By: nought})
	checkSlope(t, "One", r.One(), ring.Slope{At: long(false, api.Nat{1}, api.Nat{1}), By: nought})
}

// few are small fractions of which all fours are gone through.
func few() []api.Rat {
	return []api.Rat{{}, samples.Ratio(1, 1), samples.Ratio(-6, 4), samples.Ratio(3, 0), samples.Ratio(2, 3), samples.Ratio(4, 6), {Num: api.Int{Neg: true}, Den: api.Nat{5}}}
}

// TestSmallSlopes: all twos of slopes of few numbers, held against pairs.
func TestSmallSlopes(t *testing.T) {
	r := ring.Slopes{}
	for _, a := range slopes(few(), few()) {
		for _, b := range slopes(few(), few()) {
			x, y := samples.PairOf(a.At), samples.PairOf(b.At)
			dx, dy := samples.PairOf(a.By), samples.PairOf(b.By)
			checkSlope(t, "Add", r.Add(a, b), ring.Slope{At: x.Plus(y).Rat(), By: dx.Plus(dy).Rat()})
			checkSlope(t, "Mul", r.Mul(a, b), ring.Slope{At: x.Times(y).Rat(), By: x.Times(dy).Plus(dx.Times(y)).Rat()})
			checkSame[ring.Slope](t, r, a, b, x == y && dx == dy)
		}
	}
}

// normal is a slope as it should be.
func normal(a ring.Slope) ring.Slope { return ring.Slope{At: frac.Sum(a.At), By: frac.Sum(a.By)} }

// TestWideSlopes: what is handed in need not be normal, in long numbers too.
func TestWideSlopes(t *testing.T) {
	r := ring.Slopes{}
	list := slopes(odd(), odd())
	for i, a := range list {
		b := list[(5*i+3)%len(list)]
		padded := ring.Slope{At: wide(a.At), By: wide(a.By)}
		x, y := normal(a), normal(b)
		checkSlope(t, "Add", r.Add(padded, b), r.Add(x, y))
		checkSlope(t, "Add, the other way", r.Add(b, padded), r.Add(y, x))
		checkSlope(t, "Mul", r.Mul(padded, b), r.Mul(x, y))
		checkSlope(t, "Mul, the other way", r.Mul(b, padded), r.Mul(y, x))
		checkSame[ring.Slope](t, r, padded, x, true)
		checkSame[ring.Slope](t, r, padded, y, sameSlope(x, y))
	}
}

// TestZeroSlope: the zero Slope is 0, and does not grow.
func TestZeroSlope(t *testing.T) {
	r := ring.Slopes{}
	checkSame[ring.Slope](t, r, ring.Slope{}, r.Zero(), true)
	checkSame[ring.Slope](t, r, ring.Slope{}, r.One(), false)
	checkSlope(t, "Add", r.Add(ring.Slope{}, ring.Slope{}), r.Zero())
	checkSlope(t, "Mul", r.Mul(ring.Slope{}, slope("7", "2/3")), r.Zero())
}
