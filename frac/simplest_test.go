package frac_test

import (
	"testing"

	"credence/api"
	"credence/frac"
	"credence/samples"
	"credence/whole"
)

// 3.4: Simplest.

func TestSimplest(t *testing.T) {
	for _, c := range [][3]string{
		{"1/3", "1/2", "1/2"},
		{"2/7", "1/3", "1/3"},
		{"-1/2", "1/9", "0"},
		{"-5/2", "-7/3", "-5/2"},
		{"5/2", "9/2", "3"},
		{"-9/2", "-5/2", "-3"},
		{"31415/10000", "31416/10000", "333/106"},
		{"-31416/10000", "-31415/10000", "-333/106"},
		{"0", "0", "0"},
		{"0", "5", "0"},
		{"-5", "0", "0"},
		{"3", "7", "3"},
		{"-7", "-3", "-3"},
		{"3", "3", "3"},
		{"43/30", "43/30", "43/30"},
		{"-43/30", "-43/30", "-43/30"},
		{"43/30", "44/30", "13/9"},
		{"1/18446744073709551616", "1/18446744073709551615", "1/18446744073709551615"},
		{"18446744073709551615/18446744073709551616", "1", "1"},
	} {
		got, e := frac.Simplest(read(t, c[0]), read(t, c[1]))
		checkOK(t, "Simplest("+c[0]+", "+c[1]+")", got, e, read(t, c[2]))
	}
}

func TestSimplestOfNone(t *testing.T) {
	for _, c := range [][2]api.Rat{
		{raw(1, 1), raw(0, 1)},
		{raw(1, 1), {}},
		{raw(1, 2), raw(1, 3)},
		{raw(-1, 3), raw(-1, 2)},
		{raw(0, 1), raw(-1, 9)},
		{raw(1, 9), raw(-1, 9)},
		{raw(7, 0), raw(13, 2)},
	} {
		got, e := frac.Simplest(c[0], c[1])
		checkError(t, "Simplest", got, e, api.ErrRange)
	}
}

func TestSimplestOfNoughts(t *testing.T) {
	for _, z := range zeros() {
		for _, w := range zeros() {
			got, e := frac.Simplest(z, w)
			checkOK(t, "Simplest of noughts", got, e, small(0, 1))
		}
		got, e := frac.Simplest(z, raw(7, 0))
		checkOK(t, "Simplest from 0 on", got, e, small(0, 1))
		got, e = frac.Simplest(raw(-7, 0), z)
		checkOK(t, "Simplest up to 0", got, e, small(0, 1))
	}
	got, e := frac.Simplest(long(false, api.Nat{10, 0}, api.Nat{4, 0}), raw(9, 0))
	checkOK(t, "Simplest of what is not normal", got, e, small(3, 1))
}

// smallest goes through all denominators from 1 on, and with each through the
// numerators from 0 on, on both sides, up to the first fraction that is from
// n/d to m/k.
func smallest(n, d, m, k int) api.Rat {
	for den := 1; ; den++ {
		for size := range 40 * den {
			for _, num := range []int{size, -size} {
				if n*den <= num*d && num*k <= m*den {
					return small(num, den)
				}
			}
		}
	}
}

func TestSmallSimplest(t *testing.T) {
	for _, n := range row(-14, 14) {
		for _, d := range row(1, 8) {
			for _, m := range row(-14, 14) {
				for _, k := range row(1, 8) {
					got, e := frac.Simplest(raw(n, d), raw(m, k))
					if n*k > m*d {
						checkError(t, "Simplest", got, e, api.ErrRange)
					} else {
						checkOK(t, "Simplest", got, e, smallest(n, d, m, k))
					}
				}
			}
		}
	}
}

// neighbours are the two fractions next to p/q, above 0, among those whose
// denominators are less than q, which is 2 or more: those of which the parts
// multiplied crosswise with p and q differ by 1.
func neighbours(p, q api.Int) (api.Rat, api.Rat) {
	_, x, _ := whole.Bezout(p, q)
	_, den, _ := whole.Floor(x, q)
	num, _, _ := whole.Floor(whole.Mul(p, den), q)
	return api.Rat{Num: num, Den: den.Mag}, api.Rat{Num: whole.Sub(p, num), Den: whole.Sub(q, den).Mag}
}

// isSimplest checks the chapter's words: what is told is from a to b, and
// whatever is simpler is not.
func isSimplest(t *testing.T, a, b api.Rat) {
	t.Helper()
	got, e := frac.Simplest(a, b)
	checkOK(t, "Simplest is normal", got, e, lowered(got))
	if frac.Cmp(got, a) < 0 || frac.Cmp(got, b) > 0 {
		t.Fatalf("Simplest(%v, %v): %v", a, b, got)
	}
	if frac.Sign(got) < 0 {
		got, a, b = frac.Neg(got), frac.Neg(b), frac.Neg(a)
	}
	if q := (api.Int{Mag: got.Den}); whole.Cmp(q, whole.Of(1)) > 0 {
		low, high := neighbours(got.Num, q)
		if frac.Cmp(low, a) >= 0 || frac.Cmp(high, b) <= 0 {
			t.Fatalf("Simplest(%v, %v): %v, but there are %v and %v", a, b, got, low, high)
		}
	} else if frac.Sign(got) > 0 && frac.Cmp(frac.Sub(got, raw(1, 1)), a) >= 0 {
		t.Fatalf("Simplest(%v, %v): %v is not nearest to 0", a, b, got)
	}
}

func TestSimplestHolds(t *testing.T) {
	list := many()
	for i, a := range list {
		for j, b := range list {
			if (i+j)%3 == 0 && frac.Cmp(a, b) <= 0 {
				isSimplest(t, a, b)
			}
		}
	}
}

// TestSimplestOfCloseOnes: between long fractions that are very near to one
// another the simplest one has many terms.
func TestSimplestOfCloseOnes(t *testing.T) {
	sizes := samples.Nats(12, 9)
	for _, a := range samples.Rats(samples.Ints(sizes[:6]), sizes[6:]) {
		for _, bits := range []int{1, 20, 64, 150, 300} {
			isSimplest(t, a, frac.Add(a, long(false, api.Nat{1}, twoTo(bits))))
		}
		isSimplest(t, a, a)
	}
}

// twoTo is a power of two.
func twoTo(n int) api.Nat {
	limbs := make(api.Nat, n/32+1)
	limbs[n/32] = 1 << (n % 32)
	return limbs
}
