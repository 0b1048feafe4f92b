package near_test

import (
	"math"
	"slices"
	"strconv"
	"testing"

	"credence/api"
	"credence/decimal"
	"credence/frac"
	"credence/nat"
	"credence/near"
	"credence/samples"
)

// double and single are floats in types of another name.
type (
	double float64
	single float32
)

// of is a small fraction, as it stands.
func of(num, den int) api.Rat {
	size := api.Nat{uint32(max(num, -num))}
	return api.Rat{Num: api.Int{Neg: num < 0, Mag: size}, Den: api.Nat{uint32(den)}}
}

// ofText is the fraction of a text.
func ofText(t *testing.T, s string) api.Rat {
	t.Helper()
	a, e := frac.Parse(s)
	if e != api.OK {
		t.Fatalf("Parse of %q: %v", s, e)
	}
	return a
}

// long is a fraction of some limbs over others, the lowest first.
func long(neg bool, num, den api.Nat) api.Rat {
	return api.Rat{Num: api.Int{Neg: neg, Mag: num}, Den: den}
}

// power is 2^n; nat.Shift ends at lower exponents.
func power(n int) api.Nat {
	a := make(api.Nat, n/32+1)
	a[n/32] = 1 << (n % 32)
	return a
}

// two is 2^n, of n below 0 too.
func two(n int) api.Rat {
	if n < 0 {
		return long(false, api.Nat{1}, power(-n))
	}
	return long(false, power(n), api.Nat{1})
}

// value is what a float is, found by its digits behind the point; infinities
// are what they count as.
func value(t *testing.T, f float64, size int) api.Rat {
	t.Helper()
	if math.IsInf(f, 0) {
		top := map[int]api.Rat{64: two(1024), 32: two(128)}[size]
		return api.Rat{Num: api.Int{Neg: f < 0, Mag: top.Num.Mag}, Den: top.Den}
	}
	a, e := decimal.Parse(strconv.FormatFloat(f, 'f', 1074, 64))
	if e != api.OK {
		t.Fatalf("%v is no number: %v", f, e)
	}
	return a
}

// sizes are the bits of finite floats from 0 on, at which something begins or
// ends, and some others; those of 64 bits have 52 digits behind the first one.
func sizes(digits, most uint) []uint64 {
	end := uint64(1)<<most - 1<<digits
	list := []uint64{0, 1, 2, 3, 4, 5, end - 1, end - 2, end - 3}
	for shift := range most - digits {
		for _, range0 := range []uint64{1 << shift, 1<<shift - 1} {
			start := range0 << digits
			list = append(list, start, start+1, start+2, start+1<<digits-1, start+1<<digits-2, start+1<<(digits-1))
		}
	}
	for _, limbs := range samples.Nats(60, 2) {
		u, _ := nat.Uint(limbs)
		list = append(list, u%end)
	}
	slices.Sort(list)
	list = slices.Compact(list)
	return list[:slices.IndexFunc(append(list, end), func(u uint64) bool { return u >= end })]
}

// doubles are finite floats of 64 bits from 0 on, rising.
func doubles() []float64 {
	list := []float64{0.1, 1.0 / 3, 1, 1000, 9007199254740992, 0.5, 1e300, 1e-310}
	for _, u := range sizes(52, 63) {
		list = append(list, math.Float64frombits(u))
	}
	slices.Sort(list)
	return slices.Compact(list)
}

// singles are finite floats of 32 bits from 0 on, rising.
func singles() []float32 {
	list := []float32{0.1, 1.0 / 3, 1, 1000, 16777216, 0.5, 1e30, 1e-40}
	for _, u := range sizes(23, 31) {
		list = append(list, math.Float32frombits(uint32(u)))
	}
	slices.Sort(list)
	return slices.Compact(list)
}

// tiny is less than any step between two floats.
func tiny() api.Rat { return two(-2000) }

// middle is half way between two fractions.
func middle(a, b api.Rat) api.Rat { return frac.Mul(frac.Add(a, b), of(1, 2)) }

// apart is how far two fractions are apart.
func apart(a, b api.Rat) api.Rat {
	d := frac.Sub(a, b)
	d.Num.Neg = false
	return d
}

// fractions are fractions of all kinds, normal and not.
func fractions() []api.Rat {
	tops := append(samples.Nats(5, 40), nil, api.Nat{0}, api.Nat{1, 0}, api.Nat{7}, power(63), power(1100))
	dens := append(samples.Nats(5, 37), nil, api.Nat{0, 0}, api.Nat{1}, api.Nat{3, 0}, api.Nat{1 << 31}, power(1090))
	return samples.Rats(samples.Ints(tops), dens)
}

// same is whether two floats have the same bits.
func same[T near.Float](a, b T) bool {
	return math.Float64bits(float64(a)) == math.Float64bits(float64(b))
}

// checkNearest holds Nearest against the float that it should tell.
func checkNearest(t *testing.T, a api.Rat, want float64) {
	t.Helper()
	if got := near.Nearest(a); !same(got, want) {
		t.Fatalf("Nearest(%s): %v, want %v", frac.Text(a), got, want)
	}
}

// checkSingle holds Single against the float that it should tell.
func checkSingle(t *testing.T, a api.Rat, want float32) {
	t.Helper()
	if got := near.Single(a); !same(got, want) {
		t.Fatalf("Single(%s): %v, want %v", frac.Text(a), got, want)
	}
}

// checkAround holds Around against the floats that it should tell.
func checkAround(t *testing.T, a api.Rat, low, high float64) {
	t.Helper()
	if x, y := near.Around(a); !same(x, low) || !same(y, high) {
		t.Fatalf("Around(%s): %v, %v, want %v, %v", frac.Text(a), x, y, low, high)
	}
}

// checkOf holds Of against the fraction that it should tell, limb by limb.
func checkOf[T near.Float](t *testing.T, f T, want api.Rat) {
	t.Helper()
	got, e := near.Of(f)
	if e != api.OK || got.Num.Neg != want.Num.Neg || !slices.Equal(got.Num.Mag, want.Num.Mag) || !slices.Equal(got.Den, want.Den) {
		t.Fatalf("Of(%v): %v, %v, want %v", f, got, e, want)
	}
}
