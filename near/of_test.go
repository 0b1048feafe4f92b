package near_test

import (
	"math"
	"testing"

	"credence/api"
	"credence/near"
)

// 5.1: Of.

func TestOfTheTable(t *testing.T) {
	checkOf(t, 0.5, of(1, 2))
	checkOf(t, float32(0.1), ofText(t, "13421773/134217728"))
	checkOf(t, math.Copysign(0, -1), ofText(t, "0"))
	checkOf(t, float32(math.Copysign(0, -1)), ofText(t, "0"))
	checkOf(t, 0.0, ofText(t, "0"))
	checkOf(t, -0.75, of(-3, 4))
	checkOf(t, 1000.0, of(1000, 1))
	checkOf(t, 0.1, ofText(t, "3602879701896397/36028797018963968"))
}

// TestOfNamed: floats in types of another name are as these.
func TestOfNamed(t *testing.T) {
	checkOf(t, double(-0.5), of(-1, 2))
	checkOf(t, single(0.1), ofText(t, "13421773/134217728"))
	checkOf(t, double(0.1), ofText(t, "3602879701896397/36028797018963968"))
	checkNone(t, double(math.NaN()))
	checkNone(t, single(math.Inf(-1)))
}

func TestOfEnds(t *testing.T) {
	for _, c := range []struct {
		f    float64
		want api.Rat
	}{
		{math.Ldexp(1, 1023), two(1023)},
		{math.Ldexp(1, -1022), two(-1022)},
		{math.Ldexp(1, -1073), two(-1073)},
		{math.SmallestNonzeroFloat64, two(-1074)},
		{math.Ldexp(3, -1074), long(false, api.Nat{3}, power(1074))},
		{-math.Ldexp(3, 1000), long(true, append(make(api.Nat, 31), 3<<8), api.Nat{1})},
	} {
		checkOf(t, c.f, c.want)
	}
	checkOf(t, float32(math.SmallestNonzeroFloat32), two(-149))
	checkOf(t, float32(-math.SmallestNonzeroFloat32), long(true, api.Nat{1}, power(149)))
	// (2 - 2^-23) 2^127: 24 bits, of which the lowest is at 104.
	checkOf(t, float32(math.MaxFloat32), long(false, api.Nat{0, 0, 0, 0xffffff00}, api.Nat{1}))
	top := append(make(api.Nat, 30), 0xfffff800, 0xffffffff)
	checkOf(t, math.MaxFloat64, long(false, top, api.Nat{1}))
	checkOf(t, -math.MaxFloat64, long(true, top, api.Nat{1}))
}

// TestOfMany: what a float is, is what its digits say, just.
func TestOfMany(t *testing.T) {
	for _, f := range doubles() {
		checkOf(t, f, value(t, f, 64))
		checkOf(t, -f, value(t, 0-f, 64))
	}
	for _, f := range singles() {
		checkOf(t, f, value(t, float64(f), 32))
		checkOf(t, -f, value(t, 0-float64(f), 32))
	}
}

// checkNone looks for ErrFloat, and for the zero fraction beside it.
func checkNone[T near.Float](t *testing.T, f T) {
	t.Helper()
	if a, e := near.Of(f); e != api.ErrFloat || a.Num.Neg || a.Num.Mag != nil || a.Den != nil {
		t.Errorf("Of(%v): %v, %v", f, a, e)
	}
}

func TestOfNone(t *testing.T) {
	for _, u := range []uint64{0x7ff0000000000000, 0xfff0000000000000, 0x7ff8000000000001, 0xfff8000000000000, 0x7ff0000000000001, 0xffffffffffffffff} {
		checkNone(t, math.Float64frombits(u))
	}
	for _, u := range []uint32{0x7f800000, 0xff800000, 0x7fc00000, 0xffc00001, 0x7f800001, 0xffffffff} {
		checkNone(t, math.Float32frombits(u))
	}
}
