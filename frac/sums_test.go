package frac_test

import (
	"testing"

	"credence/api"
	"credence/frac"
	"credence/nat"
)

// Of 3.2: Add, Sub, Mul, Div, Sum.

func TestSmallSums(t *testing.T) {
	for _, n := range row(-7, 7) {
		for _, d := range row(1, 6) {
			for _, m := range row(-7, 7) {
				for _, k := range row(1, 6) {
					a, b := raw(n, d), raw(m, k)
					check(t, "Add", frac.Add(a, b), small(n*k+m*d, d*k))
					check(t, "Sub", frac.Sub(a, b), small(n*k-m*d, d*k))
					check(t, "Mul", frac.Mul(a, b), small(n*m, d*k))
					checkSmallDiv(t, n, d, m, k)
				}
			}
		}
	}
}

// checkSmallDiv holds n/d over m/k against what it should be.
func checkSmallDiv(t *testing.T, n, d, m, k int) {
	t.Helper()
	got, e := frac.Div(raw(n, d), raw(m, k))
	switch {
	case m == 0:
		checkError(t, "Div", got, e, api.ErrZero)
	case m < 0:
		checkOK(t, "Div", got, e, small(-n*k, -m*d))
	default:
		checkOK(t, "Div", got, e, small(n*k, m*d))
	}
}

func TestSumsOfTheTable(t *testing.T) {
	check(t, "Add", frac.Add(raw(1, 2), raw(1, 3)), small(5, 6))
	check(t, "Sub", frac.Sub(raw(1, 2), raw(1, 2)), small(0, 1))
	check(t, "Mul", frac.Mul(raw(-2, 3), raw(3, 4)), small(-1, 2))
	got, e := frac.Div(raw(1, 2), raw(-3, 1))
	checkOK(t, "Div", got, e, small(-1, 6))
	got, e = frac.Div(raw(1, 1), raw(0, 1))
	checkError(t, "Div", got, e, api.ErrZero)
	check(t, "Add", frac.Add(api.Rat{}, raw(1, 2)), small(1, 2))
	check(t, "Sum", frac.Sum(raw(1, 2), raw(1, 3), raw(1, 6)), small(1, 1))
	check(t, "Sum", frac.Sum(), small(0, 1))
}

// TestSumsOverNought: a denominator of 0 counts as 1, on either side.
func TestSumsOverNought(t *testing.T) {
	for _, den := range []api.Nat{nil, {}, {0}, {0, 0}} {
		a, b := long(true, api.Nat{5, 0}, den), raw(3, 4)
		check(t, "Add", frac.Add(a, b), small(-17, 4))
		check(t, "Add turned round", frac.Add(b, a), small(-17, 4))
		check(t, "Sub", frac.Sub(a, b), small(-23, 4))
		check(t, "Sub turned round", frac.Sub(b, a), small(23, 4))
		check(t, "Mul", frac.Mul(a, b), small(-15, 4))
		check(t, "Mul turned round", frac.Mul(b, a), small(-15, 4))
		got, e := frac.Div(a, b)
		checkOK(t, "Div", got, e, small(-20, 3))
		got, e = frac.Div(b, a)
		checkOK(t, "Div turned round", got, e, small(-3, 20))
		check(t, "Sum", frac.Sum(a, b, a), small(-37, 4))
		check(t, "Add of both", frac.Add(a, a), small(-10, 1))
		check(t, "Mul of both", frac.Mul(a, a), small(25, 1))
	}
}

func TestSumsWithNoughts(t *testing.T) {
	for _, z := range zeros() {
		for _, a := range append(few(), zeros()...) {
			check(t, "a + 0", frac.Add(a, z), lowered(a))
			check(t, "0 + a", frac.Add(z, a), lowered(a))
			check(t, "a - 0", frac.Sub(a, z), lowered(a))
			check(t, "0 - a", frac.Sub(z, a), frac.Neg(a))
			check(t, "a 0", frac.Mul(a, z), small(0, 1))
			check(t, "0 a", frac.Mul(z, a), small(0, 1))
			check(t, "Sum", frac.Sum(z, a, z), lowered(a))
			got, e := frac.Div(a, z)
			checkError(t, "a over 0", got, e, api.ErrZero)
			if got, e := frac.Div(z, a); frac.Sign(a) != 0 {
				checkOK(t, "0 over a", got, e, small(0, 1))
			}
		}
	}
}

func TestLongSums(t *testing.T) {
	// 2^64 - 1 and 2^64 have no common divisor, 2^64 - 1 has 2^32 - 1.
	a := long(false, api.Nat{1}, api.Nat{full, full})
	b := long(true, api.Nat{1}, api.Nat{0, 0, 1})
	check(t, "Add", frac.Add(a, b), long(false, api.Nat{1}, api.Nat{0, 0, full, full}))
	check(t, "Sub", frac.Sub(a, b), long(false, api.Nat{full, full, 1}, api.Nat{0, 0, full, full}))
	check(t, "Mul", frac.Mul(a, b), long(true, api.Nat{1}, api.Nat{0, 0, full, full}))
	got, e := frac.Div(a, b)
	checkOK(t, "Div", got, e, long(true, api.Nat{0, 0, 1}, api.Nat{full, full}))
	c := long(false, api.Nat{1}, api.Nat{full})
	// 2^32 + 2 over 2^64 - 1: both are threefold.
	check(t, "Add of kin", frac.Add(a, c), long(false, api.Nat{0x55555556}, api.Nat{0x55555555, 0x55555555}))
	got, e = frac.Div(a, c)
	checkOK(t, "Div of kin", got, e, long(false, api.Nat{1}, api.Nat{1, 1}))
}

// TestSumOfMany: 1/(1 2) and 1/(2 3) and so on, up to 1/(n (n + 1)), are
// n/(n + 1) in all; and n thirds are n over 3.
func TestSumOfMany(t *testing.T) {
	var parts, thirds []api.Rat
	for n := range 300 {
		check(t, "Sum", frac.Sum(parts...), small(n, n+1))
		check(t, "Sum of thirds", frac.Sum(thirds...), small(n, 3))
		parts = append(parts, raw(1, (n+1)*(n+2)))
		thirds = append(thirds, raw(1, 3))
	}
}

func TestSumIsAddOfAll(t *testing.T) {
	list := few()
	want := small(0, 1)
	for i, a := range list {
		want = frac.Add(want, a)
		check(t, "Sum", frac.Sum(list[:i+1]...), want)
		check(t, "Sum of one", frac.Sum(a), lowered(a))
	}
}

// TestAnswersAreInLowestTerms: of numbers of all lengths.
func TestAnswersAreInLowestTerms(t *testing.T) {
	list := many()
	for i, a := range list {
		b := list[(7*i+3)%len(list)]
		answers := []api.Rat{frac.Add(a, b), frac.Sub(a, b), frac.Mul(a, b), frac.Sum(a, b, a), frac.Neg(a)}
		if q, e := frac.Div(a, b); e == api.OK {
			answers = append(answers, q)
		}
		for _, got := range answers {
			check(t, "in lowest terms", got, lowered(got))
			if nat.Bits(got.Den) == 0 {
				t.Fatalf("of %v, %v: an answer over 0", a, b)
			}
		}
	}
}
