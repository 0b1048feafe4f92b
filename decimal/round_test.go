package decimal_test

import (
	"math"
	"regexp"
	"strconv"
	"strings"
	"testing"

	"credence/api"
	"credence/decimal"
	"credence/frac"
	"credence/nat"
)

// 4.2: Round; of 4.5: how far off it is.

func TestRound(t *testing.T) {
	for _, c := range []struct {
		num, den, digits int
		want             string
	}{
		{2, 3, 2, "0.67"}, {-2, 3, 0, "-1"}, {1, 2, 0, "1"}, {-1, 2, 0, "-1"}, {5, 2, 0, "3"},
		{-1, 1000, 2, "0.00"}, {1, 8, 2, "0.13"}, {-1, 8, 2, "-0.13"}, {7, 1, 3, "7.000"}, {999, 1000, 2, "1.00"},
		{1, 3, 0, "0"}, {-1, 3, 0, "0"}, {-1, 3, 1, "-0.3"}, {3, 2, 0, "2"}, {-3, 2, 0, "-2"}, {-5, 2, 0, "-3"},
		{0, 1, 0, "0"}, {0, 1, 4, "0.0000"}, {1, 2, 1, "0.5"}, {-1, 2, 3, "-0.500"}, {-100, 1, 0, "-100"}, {1000, 1, 1, "1000.0"},
		{1, 20, 1, "0.1"}, {-1, 20, 1, "-0.1"}, {49, 1000, 1, "0.0"}, {-49, 1000, 1, "0.0"}, {51, 1000, 1, "0.1"}, {-999, 1000, 2, "-1.00"},
		{9999, 10, 0, "1000"}, {-9995, 1000, 2, "-10.00"}, {9994, 1000, 2, "9.99"}, {1, 200, 2, "0.01"}, {1, 201, 2, "0.00"}, {-1, 201, 2, "0.00"}, {-1, 199, 2, "-0.01"},
		{6, 9, 2, "0.67"}, {-6, 0, 1, "-6.0"}, {10, 100, 2, "0.10"}, {22, 7, 9, "3.142857143"}, {13, 50, 2, "0.26"},
	} {
		checkRound(t, raw(c.num, c.den), c.digits, c.want)
	}
	for _, a := range zeros() {
		checkRound(t, a, 0, "0")
		checkRound(t, a, 2, "0.00")
	}
}

func TestRoundOfManyDigits(t *testing.T) {
	checkRound(t, raw(2, 3), 4096, "0."+strings.Repeat("6", 4095)+"7")
	checkRound(t, raw(-1, 3), 4096, "-0."+strings.Repeat("3", 4096))
	checkRound(t, raw(5, 1), 4096, "5."+strings.Repeat("0", 4096))
	tenth := power(10, 4096)
	checkRound(t, over(tenth), 4096, "0."+strings.Repeat("0", 4095)+"1")
	checkRound(t, over(tenth, nat.Of(2)), 4096, "0."+strings.Repeat("0", 4095)+"1")
	checkRound(t, over(tenth, nat.Of(3)), 4096, "0."+strings.Repeat("0", 4096))
	checkRound(t, frac.Neg(over(tenth, nat.Of(3))), 4096, "0."+strings.Repeat("0", 4096))
	// Just below the middle and just above.
	checkRound(t, frac.Sub(raw(1, 2), over(tenth, tenth)), 0, "0")
	checkRound(t, frac.Sub(over(tenth, tenth), raw(1, 2)), 0, "0")
	checkRound(t, frac.Add(raw(5, 2), over(tenth, tenth)), 0, "3")
	checkRound(t, frac.Sub(raw(5, 2), over(tenth, tenth)), 0, "2")
	checkRound(t, long(true, tenth, nat.Of(1)), 1, "-1"+strings.Repeat("0", 4096)+".0")
}

func TestRoundOutOfRange(t *testing.T) {
	for _, digits := range []int{-1, -2, -4096, math.MinInt, 4097, 4098, 1 << 32, 1<<32 + 5, math.MaxInt} {
		for _, a := range []api.Rat{{}, raw(1, 1), raw(-2, 3), raw(1, 0)} {
			if s, e := decimal.Round(a, digits); s != "" || e != api.ErrRange {
				t.Errorf("Round(%v, %d): %q, %v", a, digits, s, e)
			}
		}
	}
}

// rounded is what Round should tell of small numbers: the nearer one of the
// two neighbours, the farther one from 0 if both are as near.
func rounded(num, den, digits int) string {
	size, ones := max(num, -num), 1
	for range digits {
		size *= 10
		ones *= 10
	}
	near := size / den
	if size-near*den >= (near+1)*den-size {
		near++
	}
	s := strconv.Itoa(near / ones)
	if digits > 0 {
		s += "." + strconv.Itoa(ones + near%ones)[1:]
	}
	if num < 0 && near > 0 {
		return "-" + s
	}
	return s
}

func TestSmallRound(t *testing.T) {
	for _, num := range row(-130, 130) {
		for _, den := range row(1, 40) {
			for digits := range 4 {
				checkRound(t, raw(num, den), digits, rounded(num, den, digits))
			}
		}
	}
}

// roundShape is how a rounded number looks.
var roundShape = regexp.MustCompile(`^-?(0|[1-9][0-9]*)(\.[0-9]+)?$`)

func TestRoundIsNear(t *testing.T) {
	for _, a := range few() {
		for _, digits := range []int{0, 1, 2, 9, 10, 60} {
			s, e := decimal.Round(a, digits)
			if e != api.OK || !roundShape.MatchString(s) {
				t.Fatalf("Round(%v, %d): %s, %v", a, digits, s, e)
			}
			if _, behind, point := strings.Cut(s, "."); len(behind) != digits || point != (digits > 0) {
				t.Fatalf("Round(%v, %d): %s", a, digits, s)
			}
			if strings.HasPrefix(s, "-") && !strings.ContainsAny(s, "123456789") {
				t.Fatalf("Round(%v, %d): %s", a, digits, s)
			}
			checkHalf(t, a, read(t, s), digits)
		}
	}
}

// checkHalf looks whether a rounded number is off by at most half of its last
// digit, and away from 0 where it is off by just half.
func checkHalf(t *testing.T, a, near api.Rat, digits int) {
	t.Helper()
	off := frac.Sub(near, a)
	if frac.Sign(off) < 0 {
		off = frac.Neg(off)
	}
	outwards := frac.Sign(frac.Sub(near, a)) == frac.Sign(a)
	switch frac.Cmp(off, over(power(10, digits), nat.Of(2))) {
	case 1:
		t.Fatalf("%v is rounded to %v", a, near)
	case 0:
		if !outwards {
			t.Fatalf("%v is rounded to %v, towards 0", a, near)
		}
	}
}
