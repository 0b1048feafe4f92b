package near_test

import (
	"math"
	"testing"

	"credence/api"
	"credence/frac"
)

// 5.3: Around.

func TestAroundOfTheTable(t *testing.T) {
	checkAround(t, of(1, 10), 0.09999999999999999, 0.1)
	checkAround(t, of(1, 2), 0.5, 0.5)
	checkAround(t, of(0, 1), 0, 0)
	checkAround(t, two(1024), math.MaxFloat64, math.Inf(1))
	checkAround(t, frac.Neg(two(-2000)), -math.SmallestNonzeroFloat64, 0)
}

// TestAroundBetween: on the way from each float to the next.
func TestAroundBetween(t *testing.T) {
	for _, f := range doubles() {
		next := math.Float64frombits(math.Float64bits(f) + 1)
		low, high := value(t, f, 64), value(t, next, 64)
		checkAround(t, low, f, f)
		checkAround(t, frac.Neg(low), 0-f, 0-f)
		for _, a := range []api.Rat{frac.Add(low, tiny()), middle(low, high), frac.Sub(high, tiny())} {
			checkAround(t, a, f, next)
			checkAround(t, frac.Neg(a), 0-next, 0-f)
		}
	}
}

// TestAroundFarOut: where there is no finite float on one side.
func TestAroundFarOut(t *testing.T) {
	far := api.MaxShift + 100
	for _, a := range []api.Rat{
		frac.Sub(two(1024), tiny()), two(1024), frac.Add(two(1024), of(1, 1)), two(1025), two(2000),
		long(false, power(far), api.Nat{7}), long(false, power(far+1024), power(far)),
	} {
		checkAround(t, a, math.MaxFloat64, math.Inf(1))
		checkAround(t, frac.Neg(a), math.Inf(-1), -math.MaxFloat64)
	}
	for _, a := range []api.Rat{two(-1075), two(-1076), two(-1077), long(false, api.Nat{7}, power(far)), long(false, power(far), power(far+1075))} {
		checkAround(t, a, 0, math.SmallestNonzeroFloat64)
		checkAround(t, frac.Neg(a), -math.SmallestNonzeroFloat64, 0)
	}
}
