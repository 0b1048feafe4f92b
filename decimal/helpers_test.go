package decimal_test

import (
	"slices"
	"strings"
	"testing"

	"credence/api"
	"credence/decimal"
	"credence/nat"
	"credence/samples"
	"credence/whole"
)

// full is the greatest limb.
const full = 1<<32 - 1

// raw is a fraction as it stands, of numbers of one limb each.
func raw(num, den int) api.Rat {
	size := api.Nat{uint32(max(num, -num))}
	return api.Rat{Num: api.Int{Neg: num < 0, Mag: size}, Den: api.Nat{uint32(den)}}
}

// long is a fraction of some limbs over others, the lowest first.
func long(neg bool, num, den api.Nat) api.Rat {
	return api.Rat{Num: api.Int{Neg: neg, Mag: num}, Den: den}
}

// over is 1 over the product of some numbers.
func over(numbers ...api.Nat) api.Rat {
	den := nat.Of(1)
	for _, n := range numbers {
		den = nat.Mul(den, n)
	}
	return long(false, nat.Of(1), den)
}

// power is a small number to a power; nat.Pow ends at lower exponents.
func power(base uint64, n int) api.Nat {
	a := nat.Of(1)
	for range n {
		a = nat.Mul(a, nat.Of(base))
	}
	return a
}

// nines is 10^n - 1.
func nines(n int) api.Nat {
	a, _ := nat.Parse(strings.Repeat("9", n))
	return a
}

// lowered is a fraction in lowest terms, found by dividing by the greatest
// common divisor; over 1, if it is over 0.
func lowered(a api.Rat) api.Rat {
	if nat.Bits(a.Den) == 0 {
		return api.Rat{Num: whole.Norm(a.Num), Den: api.Nat{1}}
	}
	g := nat.Gcd(a.Num.Mag, a.Den)
	num, _, _ := nat.DivMod(a.Num.Mag, g)
	den, _, _ := nat.DivMod(a.Den, g)
	return api.Rat{Num: whole.Norm(api.Int{Neg: a.Num.Neg, Mag: num}), Den: den}
}

// check holds an answer against the side and the limbs that it should have:
// just these, so that it is normal too, if what it is held against is.
func check(t *testing.T, what string, got, want api.Rat) {
	t.Helper()
	if got.Num.Neg != want.Num.Neg || !slices.Equal(got.Num.Mag, want.Num.Mag) || !slices.Equal(got.Den, want.Den) {
		t.Fatalf("%s: %v, want %v", what, got, want)
	}
}

// read is the fraction of a decimal number.
func read(t *testing.T, s string) api.Rat {
	t.Helper()
	a, e := decimal.Parse(s)
	if e != api.OK {
		t.Fatalf("Parse of %q: %v", s, e)
	}
	return a
}

// checkRound holds what Round tells against what it should.
func checkRound(t *testing.T, a api.Rat, digits int, want string) {
	t.Helper()
	if got, e := decimal.Round(a, digits); got != want || e != api.OK {
		t.Fatalf("Round(%v, %d): %s, %v, want %s", a, digits, got, e, want)
	}
}

// checkExact holds what Exact tells against what it should: none, where that
// is empty.
func checkExact(t *testing.T, a api.Rat, want string) {
	t.Helper()
	if got, ok := decimal.Exact(a); got != want || ok != (want != "") {
		t.Fatalf("Exact of %v: %s, %v, want %s", a, got, ok, want)
	}
}

// checkPeriod holds what Period tells against what it should.
func checkPeriod(t *testing.T, a api.Rat, most int, first, second string) {
	t.Helper()
	if p, q, e := decimal.Period(a, most); p != first || q != second || e != api.OK {
		t.Fatalf("Period(%v, %d): %s, %s, %v, want %s, %s", a, most, p, q, e, first, second)
	}
}

// checkNoPeriod looks for an error, and for empty texts beside it.
func checkNoPeriod(t *testing.T, a api.Rat, most int, want api.Errno) {
	t.Helper()
	if p, q, e := decimal.Period(a, most); p != "" || q != "" || e != want {
		t.Fatalf("Period(%v, %d): %q, %q, %v, want %v", a, most, p, q, e, want)
	}
}

// zeros are all kinds of fractions that say 0.
func zeros() []api.Rat {
	noughts := []api.Int{{}, {Mag: api.Nat{0, 0}}, {Neg: true}, {Neg: true, Mag: api.Nat{0}}}
	return samples.Rats(noughts, []api.Nat{nil, {}, {0, 0}, {1}, {5, 0}, {0, 1}})
}

// few are fractions of all kinds: short and long, below 0 and above, normal
// and not.
func few() []api.Rat {
	sizes := append(samples.Nats(4, 6), nil, api.Nat{0}, api.Nat{1, 0}, api.Nat{12}, api.Nat{full, full}, api.Nat{0, 1 << 31})
	dens := append(sizes, api.Nat{8}, api.Nat{625, 0}, api.Nat{10}, api.Nat{6}, api.Nat{7}, api.Nat{0, 0, 5})
	return samples.Rats(samples.Ints(sizes), dens)
}

// row are whole numbers from one to another.
func row(from, to int) []int {
	var list []int
	for n := from; n <= to; n++ {
		list = append(list, n)
	}
	return list
}
