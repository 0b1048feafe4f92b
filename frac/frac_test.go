package frac_test

import (
	"math"
	"testing"

	"credence/api"
	"credence/frac"
	"credence/whole"
)

// 3.1: New, Of, Norm; of 3.2: Cmp, Sign, Neg, Floor.

func TestOf(t *testing.T) {
	for _, c := range []struct {
		num, den int
		want     api.Rat
	}{
		{6, -4, small(-3, 2)},
		{-6, -4, small(3, 2)},
		{-6, 4, small(-3, 2)},
		{6, 4, small(3, 2)},
		{0, -7, small(0, 1)},
		{0, math.MinInt, small(0, 1)},
		{7, 7, small(1, 1)},
		{-7, 7, small(-1, 1)},
		{math.MinInt, -1, long(false, api.Nat{0, 1 << 31}, api.Nat{1})},
		{math.MinInt, 1, long(true, api.Nat{0, 1 << 31}, api.Nat{1})},
		{1, math.MinInt, long(true, api.Nat{1}, api.Nat{0, 1 << 31})},
		{math.MinInt, math.MinInt, small(1, 1)},
		{math.MaxInt, math.MinInt, long(true, api.Nat{full, 1<<31 - 1}, api.Nat{0, 1 << 31})},
	} {
		a, e := frac.Of(c.num, c.den)
		checkOK(t, "Of", a, e, c.want)
	}
	for _, num := range []int{0, 1, -1, math.MinInt, math.MaxInt} {
		a, e := frac.Of(num, 0)
		checkError(t, "Of", a, e, api.ErrZero)
	}
}

func TestSmallOf(t *testing.T) {
	for _, num := range row(-40, 40) {
		for _, den := range row(1, 40) {
			a, e := frac.Of(num, den)
			checkOK(t, "Of", a, e, small(num, den))
			a, e = frac.Of(-num, -den)
			checkOK(t, "Of", a, e, small(num, den))
		}
	}
}

func TestNew(t *testing.T) {
	for _, a := range many() {
		for _, neg := range []bool{false, true} {
			got, e := frac.New(a.Num, api.Int{Neg: neg, Mag: a.Den})
			if want := lowered(a); whole.Sign(api.Int{Mag: a.Den}) == 0 {
				checkError(t, "New", got, e, api.ErrZero)
			} else if neg {
				checkOK(t, "New", got, e, api.Rat{Num: whole.Neg(want.Num), Den: want.Den})
			} else {
				checkOK(t, "New", got, e, want)
			}
		}
	}
}

func TestNewOverNought(t *testing.T) {
	for _, den := range noughts() {
		for _, num := range append(noughts(), whole.Of(1), whole.Of(-5)) {
			a, e := frac.New(num, den)
			checkError(t, "New", a, e, api.ErrZero)
			a, e = frac.Norm(api.Rat{Num: num, Den: den.Mag})
			checkError(t, "Norm", a, e, api.ErrZero)
		}
	}
}

func TestNorm(t *testing.T) {
	for _, c := range []struct{ a, want api.Rat }{
		{long(true, api.Nat{0}, api.Nat{5}), small(0, 1)},
		{long(true, nil, api.Nat{0, 5, 0}), small(0, 1)},
		{raw(4, 6), small(2, 3)},
		{raw(-4, 6), small(-2, 3)},
		{long(false, api.Nat{4, 0}, api.Nat{6, 0, 0}), small(2, 3)},
		{long(true, api.Nat{3, 0}, api.Nat{1, 0}), small(-3, 1)},
		{long(false, api.Nat{0, 0, 10}, api.Nat{0, 0, 0, 4}), long(false, api.Nat{5}, api.Nat{0, 2})},
		{long(true, api.Nat{full, full}, api.Nat{full}), long(true, api.Nat{1, 1}, api.Nat{1})},
	} {
		a, e := frac.Norm(c.a)
		checkOK(t, "Norm", a, e, c.want)
	}
	for _, a := range many() {
		if got, e := frac.Norm(a); e == api.OK {
			check(t, "Norm", got, lowered(a))
		} else if checkError(t, "Norm", got, e, api.ErrZero); whole.Sign(api.Int{Mag: a.Den}) != 0 {
			t.Fatalf("Norm of %v: %v", a, e)
		}
	}
}

// side is -1, 0 or 1, as a number is below, at or above 0.
func side(n int) int {
	switch {
	case n < 0:
		return -1
	case n > 0:
		return 1
	}
	return 0
}

func TestSmallCmp(t *testing.T) {
	for _, n := range row(-9, 9) {
		for _, d := range row(1, 6) {
			if got := frac.Sign(raw(n, d)); got != side(n) {
				t.Errorf("Sign of %d/%d: %d", n, d, got)
			}
			for _, m := range row(-9, 9) {
				for _, k := range row(1, 6) {
					if got := frac.Cmp(raw(n, d), raw(m, k)); got != side(n*k-m*d) {
						t.Errorf("Cmp(%d/%d, %d/%d): %d", n, d, m, k, got)
					}
				}
			}
		}
	}
}

func TestOrderOfTheTable(t *testing.T) {
	if got := frac.Cmp(raw(-1, 2), raw(-1, 3)); got != -1 {
		t.Errorf("Cmp(-1/2, -1/3): %d", got)
	}
	if got := frac.Sign(raw(-1, 2)); got != -1 {
		t.Errorf("Sign of -1/2: %d", got)
	}
	checkInt(t, "Floor of -1/2", frac.Floor(raw(-1, 2)), whole.Of(-1))
	checkInt(t, "Floor of 7/2", frac.Floor(raw(7, 2)), whole.Of(3))
}

func TestCmpOfLongOnes(t *testing.T) {
	// Each is greater than the one ahead of it, some by very little.
	rising := []api.Rat{
		long(true, api.Nat{0, 0, 1}, api.Nat{1}),
		long(true, api.Nat{0, 0, 1}, api.Nat{full, full}),
		long(true, api.Nat{1}, nil),
		long(true, api.Nat{full, full, 0}, api.Nat{0, 0, 1}),
		long(true, api.Nat{1}, api.Nat{0, 0, 1}),
		{},
		long(false, api.Nat{1}, api.Nat{0, 0, 1}),
		long(false, api.Nat{full - 1, full}, api.Nat{full, full}),
		long(false, api.Nat{full, full}, api.Nat{0, 0, 1}),
		long(false, api.Nat{7, 7}, api.Nat{7, 7, 0}),
		long(false, api.Nat{0, 0, 1}, api.Nat{full, full}),
		long(false, api.Nat{2}, api.Nat{0}),
	}
	for i, a := range rising {
		if got := frac.Sign(a); got != side(i-5) {
			t.Errorf("Sign of %v: %d", a, got)
		}
		for j, b := range rising {
			if got := frac.Cmp(a, b); got != side(i-j) {
				t.Errorf("Cmp(%v, %v): %d", a, b, got)
			}
		}
	}
}

func TestCmpOfNoughts(t *testing.T) {
	for _, a := range zeros() {
		if got := frac.Sign(a); got != 0 {
			t.Errorf("Sign of %v: %d", a, got)
		}
		for _, b := range zeros() {
			if got := frac.Cmp(a, b); got != 0 {
				t.Errorf("Cmp(%v, %v): %d", a, b, got)
			}
		}
		for _, b := range many() {
			if frac.Cmp(b, a) != frac.Sign(b) || frac.Cmp(a, b) != -frac.Sign(b) || frac.Sign(b) != whole.Sign(b.Num) {
				t.Errorf("Cmp(%v, %v): %d", b, a, frac.Cmp(b, a))
			}
		}
	}
}

func TestNeg(t *testing.T) {
	for _, n := range row(-12, 12) {
		for _, d := range row(1, 12) {
			check(t, "Neg", frac.Neg(raw(n, d)), small(-n, d))
		}
		check(t, "Neg of what is over 0", frac.Neg(raw(n, 0)), small(-n, 1))
	}
	for _, a := range zeros() {
		check(t, "Neg of 0", frac.Neg(a), small(0, 1))
	}
	for _, a := range many() {
		want := lowered(a)
		check(t, "Neg", frac.Neg(a), api.Rat{Num: whole.Neg(want.Num), Den: want.Den})
	}
}

// floorOf is the quotient rounded down, found by going on from 0 step by step.
func floorOf(num, den int) int {
	q := 0
	for q*den > num {
		q--
	}
	for (q+1)*den <= num {
		q++
	}
	return q
}

func TestFloor(t *testing.T) {
	for _, n := range row(-40, 40) {
		for _, d := range row(1, 12) {
			checkInt(t, "Floor", frac.Floor(raw(n, d)), small(floorOf(n, d), 1).Num)
		}
		checkInt(t, "Floor of what is over 0", frac.Floor(raw(n, 0)), small(n, 1).Num)
	}
	for _, a := range zeros() {
		checkInt(t, "Floor of 0", frac.Floor(a), api.Int{})
	}
	for _, a := range many() {
		down := api.Rat{Num: frac.Floor(a), Den: api.Nat{1}}
		checkInt(t, "Floor is normal", down.Num, whole.Norm(down.Num))
		if frac.Cmp(down, a) > 0 || frac.Cmp(frac.Add(down, raw(1, 1)), a) <= 0 {
			t.Fatalf("Floor of %v: %v", a, down.Num)
		}
	}
}
