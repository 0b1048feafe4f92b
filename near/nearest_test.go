package near_test

import (
	"math"
	"strconv"
	"strings"
	"testing"

	"credence/api"
	"credence/decimal"
	"credence/frac"
	"credence/nat"
)

// 5.2: Nearest and Single.

func TestNearestOfTheTable(t *testing.T) {
	edge := frac.Sub(two(1024), two(970))
	checkNearest(t, of(1, 10), 0.1)
	checkNearest(t, of(1, 3), 0.3333333333333333)
	checkNearest(t, of(-1, 3), -0.3333333333333333)
	checkNearest(t, ofText(t, "9007199254740993"), 9007199254740992)
	checkNearest(t, ofText(t, "9007199254740995"), 9007199254740996)
	checkNearest(t, edge, math.Inf(1))
	checkNearest(t, frac.Sub(edge, of(1, 1)), math.MaxFloat64)
	checkNearest(t, frac.Neg(two(2000)), math.Inf(-1))
	checkNearest(t, two(-1075), 0)
	checkNearest(t, frac.Mul(of(3, 1), two(-1075)), math.Ldexp(1, -1073))
	checkNearest(t, frac.Neg(two(-1075)), 0)
}

func TestSingleOfTheTable(t *testing.T) {
	checkSingle(t, of(1, 10), 0.1)
	checkSingle(t, of(16777217, 1), 16777216)
	checkSingle(t, frac.Sub(two(128), two(103)), float32(math.Inf(1)))
	checkSingle(t, two(-150), 0)
	checkSingle(t, frac.Neg(two(-150)), 0)
	between := frac.Add(of(16777217, 1), two(-40))
	checkSingle(t, between, 16777218)
	checkNearest(t, between, 16777217)
}

// steps are fractions from one to another, and whether the second one is
// nearer; half way, whether it is even.
func steps(low, high api.Rat, even bool) map[bool][]api.Rat {
	half := middle(low, high)
	list := map[bool][]api.Rat{
		false: {low, frac.Add(low, tiny()), frac.Sub(half, tiny())},
		true:  {high, frac.Sub(high, tiny()), frac.Add(half, tiny())},
	}
	list[even] = append(list[even], half)
	return list
}

// TestNearestBetween: on the way from each float to the next.
func TestNearestBetween(t *testing.T) {
	for _, f := range doubles() {
		bits := math.Float64bits(f)
		next := math.Float64frombits(bits + 1)
		for late, list := range steps(value(t, f, 64), value(t, next, 64), bits%2 == 1) {
			want := map[bool]float64{false: f, true: next}[late]
			for _, a := range list {
				checkNearest(t, a, want)
				checkNearest(t, frac.Neg(a), 0-want)
			}
		}
	}
}

// TestSingleBetween: likewise of 32 bits.
func TestSingleBetween(t *testing.T) {
	for _, f := range singles() {
		bits := math.Float32bits(f)
		next := math.Float32frombits(bits + 1)
		for late, list := range steps(value(t, float64(f), 32), value(t, float64(next), 32), bits%2 == 1) {
			want := map[bool]float32{false: f, true: next}[late]
			for _, a := range list {
				checkSingle(t, a, want)
				checkSingle(t, frac.Neg(a), 0-want)
			}
		}
	}
}

// TestDecimals: of numbers with a point, Nearest and Single are what the
// library reads.
func TestDecimals(t *testing.T) {
	texts := []string{"0.1", "-2.5e-8", "17.75", "1e308", "1.8e308", "-1e309", "4.9e-324", "2.4e-324", "2.5e-324", "-2e-324", "1e-400",
		"2.2250738585072011e-308", "2.2250738585072014e-308", "3.4028235e38", "3.4028236e38", "1.17549435e-38", "1.4e-45", "7e-46", "7.1e-46",
		"123456789012345678901234567890.123456789", "0.000000000000000000000000000000012345"}
	for _, size := range fractions()[:40] {
		digits := nat.Text(size.Num.Mag)
		texts = append(texts, digits, "-0."+digits, digits+"e-300", "0."+strings.Repeat("0", 290)+digits)
	}
	for _, s := range texts {
		a, e := decimal.Parse(s)
		if e != api.OK {
			t.Fatalf("%s: %v", s, e)
		}
		// The library tells an error of what is too great, and infinity; and -0.
		f, _ := strconv.ParseFloat(s, 64)
		checkNearest(t, a, f+0)
		g, _ := strconv.ParseFloat(s, 32)
		checkSingle(t, a, float32(g)+0)
	}
}

// TestVeryLong: numbers that are longer than any shift, one over the other.
func TestVeryLong(t *testing.T) {
	far := api.MaxShift + 100
	for _, c := range []struct {
		a    api.Rat
		want float64
		less float32
	}{
		{long(false, power(far), power(far)), 1, 1},
		{long(true, power(far), power(far-1)), -2, -2},
		{long(false, power(far), nat.Mul(power(far), nat.Of(3))), 1.0 / 3, 1.0 / 3},
		{long(false, power(far), power(far+1074)), math.SmallestNonzeroFloat64, 0},
		{long(false, power(far), power(far+1075)), 0, 0},
		{long(false, nat.Add(power(far), nat.Of(1)), power(far+1075)), math.SmallestNonzeroFloat64, 0},
		{long(true, nat.Add(power(far), nat.Of(1)), power(far+150)), -math.Ldexp(1, -150), -math.SmallestNonzeroFloat32},
		{long(true, power(far+1023), power(far)), -math.Ldexp(1, 1023), float32(math.Inf(-1))},
		{long(true, power(far+1024), power(far)), math.Inf(-1), float32(math.Inf(-1))},
		{long(false, power(far), api.Nat{1}), math.Inf(1), float32(math.Inf(1))},
		{long(true, power(far), api.Nat{3}), math.Inf(-1), float32(math.Inf(-1))},
		{long(false, api.Nat{3}, power(far)), 0, 0},
		{long(true, api.Nat{3}, power(far)), 0, 0},
		{long(true, nil, power(far)), 0, 0},
	} {
		checkNearest(t, c.a, c.want)
		checkSingle(t, c.a, c.less)
	}
}
