package frac_test

import (
	"slices"
	"testing"

	"credence/api"
	"credence/frac"
	"credence/nat"
	"credence/samples"
	"credence/whole"
)

// full is the greatest limb.
const full = 1<<32 - 1

// raw is a fraction as it stands, of numbers of one limb each: laid limb by
// limb, so that it hangs on no call that is tested.
func raw(num, den int) api.Rat {
	size := api.Nat{uint32(max(num, -num))}
	return api.Rat{Num: api.Int{Neg: num < 0, Mag: size}, Den: api.Nat{uint32(den)}}
}

// small is the normal fraction of two small numbers, the lower one above 0.
func small(num, den int) api.Rat {
	x, y := max(num, -num), den
	for y != 0 {
		x, y = y, x%y
	}
	a := raw(num/x, den/x)
	if num == 0 {
		a.Num.Mag = nil
	}
	return a
}

// long is a fraction of some limbs over others, the lowest first.
func long(neg bool, num, den api.Nat) api.Rat {
	return api.Rat{Num: api.Int{Neg: neg, Mag: num}, Den: den}
}

// read is the fraction of a text.
func read(t *testing.T, s string) api.Rat {
	t.Helper()
	a, e := frac.Parse(s)
	if e != api.OK {
		t.Fatalf("Parse(%s): %v", s, e)
	}
	return a
}

// check holds an answer against the side and the limbs that it should have:
// just these, so that it is normal too, if what it is held against is.
func check(t *testing.T, what string, got, want api.Rat) {
	t.Helper()
	if !sameInt(got.Num, want.Num) || !slices.Equal(got.Den, want.Den) {
		t.Fatalf("%s: %v, want %v", what, got, want)
	}
}

// checkOK holds an answer with an error's number against what it should be.
func checkOK(t *testing.T, what string, got api.Rat, e api.Errno, want api.Rat) {
	t.Helper()
	if e != api.OK {
		t.Fatalf("%s: %v", what, e)
	}
	check(t, what, got, want)
}

// checkError looks for an error, and for Go's zero value beside it.
func checkError(t *testing.T, what string, got api.Rat, e, want api.Errno) {
	t.Helper()
	if e != want {
		t.Fatalf("%s: %v, want %v", what, e, want)
	}
	if got.Num.Neg || len(got.Num.Mag) != 0 || len(got.Den) != 0 {
		t.Fatalf("%s: %v beside an error", what, got)
	}
}

// checkInt holds a whole number against the one that it should be.
func checkInt(t *testing.T, what string, got, want api.Int) {
	t.Helper()
	if !sameInt(got, want) {
		t.Fatalf("%s: %v, want %v", what, got, want)
	}
}

// sameInt is whether two numbers have one side and the same limbs.
func sameInt(a, b api.Int) bool { return a.Neg == b.Neg && slices.Equal(a.Mag, b.Mag) }

// noughts are numbers that say 0.
func noughts() []api.Int {
	return []api.Int{{}, {Mag: api.Nat{}}, {Mag: api.Nat{0, 0}}, {Neg: true}, {Neg: true, Mag: api.Nat{0}}}
}

// zeros are all kinds of fractions that say 0.
func zeros() []api.Rat {
	return samples.Rats(noughts(), []api.Nat{nil, {}, {0}, {0, 0}, {1}, {5, 0}, {0, 1}})
}

// lowered is a fraction in lowest terms, found by dividing by the greatest
// common divisor; over 1, if it is over 0.
func lowered(a api.Rat) api.Rat {
	if nat.Bits(a.Den) == 0 {
		return api.Rat{Num: whole.Norm(a.Num), Den: api.Nat{1}}
	}
	g := nat.Gcd(a.Num.Mag, a.Den)
	num, _, _ := nat.DivMod(a.Num.Mag, g)
	den, _, _ := nat.DivMod(a.Den, g)
	return api.Rat{Num: whole.Norm(api.Int{Neg: a.Num.Neg, Mag: num}), Den: den}
}

// few are fractions of which all threes are gone through.
func few() []api.Rat {
	short := samples.Rats(samples.Ints([]api.Nat{nil, {6}, {full, full, 0}}), []api.Nat{nil, {4, 0}, {0, 3}})
	rest := samples.Nats(6, 6)
	return append(short, samples.Rats(samples.Ints(rest[:2]), rest[2:4])...)
}

// many are fractions of which all twos are gone through.
func many() []api.Rat {
	sizes := append(samples.Nats(4, 8), nil, api.Nat{0}, api.Nat{1, 0}, api.Nat{12}, api.Nat{full}, api.Nat{0, 1 << 31}, api.Nat{full, full, full})
	return append(few(), samples.Rats(samples.Ints(sizes), append(sizes, api.Nat{18, 0}))...)
}

// row are whole numbers from one to another.
func row(from, to int) []int {
	var list []int
	for n := from; n <= to; n++ {
		list = append(list, n)
	}
	return list
}
