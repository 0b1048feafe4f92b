package decimal_test

import (
	"strconv"
	"strings"
	"testing"

	"credence/api"
	"credence/decimal"
	"credence/frac"
	"credence/nat"
)

// 4.3: Exact; of 4.5: what it has to do with Parse and Round.

func TestExact(t *testing.T) {
	for _, c := range []struct {
		num, den int
		want     string
	}{
		{1, 8, "0.125"}, {-5, 2, "-2.5"}, {100, 1, "100"}, {0, 1, "0"}, {1, 3, ""}, {6, 15, "0.4"},
		{-1, 8, "-0.125"}, {5, 2, "2.5"}, {-100, 1, "-100"}, {1, 10, "0.1"}, {1, 100, "0.01"}, {101, 100, "1.01"}, {1, 5, "0.2"}, {1, 16, "0.0625"}, {1, 625, "0.0016"},
		{1, 1024, "0.0009765625"}, {-123456789, 1000, "-123456.789"}, {10, 20, "0.5"}, {7, 7, "1"}, {21, 7, "3"}, {9, 6, "1.5"}, {0, 3, "0"},
		{-1, 3, ""}, {1, 6, ""}, {1, 7, ""}, {1, 15, ""}, {1, 11, ""}, {22, 7, ""}, {1, 30, ""}, {1, 1 << 31, "0.0000000004656612873077392578125"}, {1, 1<<31 - 1, ""},
		{5, 0, "5"}, {-5, 0, "-5"}, {0, 0, "0"},
	} {
		checkExact(t, raw(c.num, c.den), c.want)
	}
	for _, a := range zeros() {
		checkExact(t, a, "0")
	}
}

// exactly is what Exact should tell of a small number: its digits by dividing,
// as long as there is something left.
func exactly(num, den int) string {
	size := max(num, -num)
	s := strconv.Itoa(size / den)
	left := size % den
	if left > 0 {
		s += "."
	}
	for range 20 {
		if left == 0 {
			break
		}
		s += strconv.Itoa(left * 10 / den)
		left = left * 10 % den
	}
	if left > 0 {
		return ""
	}
	if num < 0 {
		return "-" + s
	}
	return s
}

func TestSmallExact(t *testing.T) {
	for _, num := range row(-70, 70) {
		for _, den := range row(1, 260) {
			checkExact(t, raw(num, den), exactly(num, den))
		}
	}
}

// digitsBehind is how many digits stand behind the point of what Exact tells,
// -1 if it tells none.
func digitsBehind(a api.Rat) int {
	s, ok := decimal.Exact(a)
	if !ok {
		return -1
	}
	_, behind, _ := strings.Cut(s, ".")
	return len(behind)
}

func TestExactOfManyDigits(t *testing.T) {
	two, five, ten := power(2, 4096), power(5, 4096), power(10, 4096)
	for what, c := range map[string]struct {
		a    api.Rat
		want int
	}{
		"2^-4095":            {over(power(2, 4095)), 4095},
		"2^-4096":            {over(two), 4096},
		"2^-4097":            {over(two, nat.Of(2)), -1},
		"5^-4096":            {over(five), 4096},
		"5^-4097":            {over(five, nat.Of(5)), -1},
		"10^-4096":           {over(ten), 4096},
		"10^-4096 / 2":       {over(ten, nat.Of(2)), -1},
		"10^-4096 / 5":       {over(ten, nat.Of(5)), -1},
		"2^-4096 / 5":        {over(two, nat.Of(5)), 4096},
		"2^-4096 / 3":        {over(two, nat.Of(3)), -1},
		"5^-4096 / 3":        {over(five, nat.Of(3)), -1},
		"4/2^4098":           {long(true, api.Nat{4}, nat.Mul(two, nat.Of(4))), 4096},
		"4/2^4099":           {long(true, api.Nat{4}, nat.Mul(two, nat.Of(8))), -1},
		"3/(3 2^4096)":       {long(false, api.Nat{3}, nat.Mul(two, nat.Of(3))), 4096},
		"3^9000/(3^9000 10)": {long(false, power(3, 9000), nat.Mul(power(3, 9000), nat.Of(10))), 1},
		"10^5000":            {long(true, power(10, 5000), nat.Of(1)), 0},
		"10^5000 / 3":        {long(true, power(10, 5000), nat.Of(3)), -1},
		"2^-60000":           {over(power(2, 60000)), -1},
		"5^-20000":           {over(power(5, 20000)), -1},
	} {
		if got := digitsBehind(c.a); got != c.want {
			t.Errorf("%s: %d digits behind the point", what, got)
		}
	}
	checkExact(t, over(ten), "0."+strings.Repeat("0", 4095)+"1")
	checkExact(t, long(true, power(10, 5000), nat.Of(1)), "-1"+strings.Repeat("0", 5000))
	// Far behind the end: none of it may be worked out digit by digit.
	if s, ok := decimal.Exact(long(false, nat.Of(1), append(make(api.Nat, 1<<20), 1))); s != "" || ok {
		t.Errorf("2^-(2^25): %d bytes, %v", len(s), ok)
	}
}

// TestExactThereAndBack: what Exact tells is a, in as few digits as can be, and
// with noughts behind it is what Round tells.
func TestExactThereAndBack(t *testing.T) {
	told := 0
	for _, a := range few() {
		s, ok := decimal.Exact(a)
		if endless := frac.Cmp(a, cut(a)) != 0; ok == endless {
			t.Fatalf("Exact of %v: %s, %v", a, s, ok)
		}
		if !ok {
			continue
		}
		told++
		check(t, "Parse of "+s, read(t, s), lowered(a))
		_, behind, point := strings.Cut(s, ".")
		if point == (behind == "") || strings.HasSuffix(behind, "0") || !roundShape.MatchString(s) || s == "-0" {
			t.Fatalf("Exact of %v: %s", a, s)
		}
		checkRound(t, a, len(behind), s)
		if !point {
			s += "."
		}
		checkRound(t, a, len(behind)+3, s+"000")
	}
	if told < 20 {
		t.Errorf("Exact told only %d", told)
	}
}

// cut is a fraction whose digits behind the point are left away from the 400th
// on: few of these tests have so many, if they have an end.
func cut(a api.Rat) api.Rat {
	ten := power(10, 400)
	down := frac.Floor(frac.Mul(a, long(false, ten, nat.Of(1))))
	return api.Rat{Num: down, Den: ten}
}

// TestDecimalsAreExact: each decimal number is one that Exact tells.
func TestDecimalsAreExact(t *testing.T) {
	for _, s := range []string{"0.1", "-0.1", "1", "-1", "0.007", "123.456", "-1000000.000001", "0." + strings.Repeat("37", 2048), strings.Repeat("9", 50) + ".5", "0." + strings.Repeat("0", 4095) + "9"} {
		checkExact(t, read(t, s), s)
	}
	for s, want := range map[string]string{"00.10": "0.1", "-0": "0", "-0.0": "0", "1e3": "1000", "1.5e-3": "0.0015", "100e-2": "1", "-2.50E1": "-25", "1e-1000": "0." + strings.Repeat("0", 999) + "1"} {
		checkExact(t, read(t, s), want)
	}
	checkExact(t, read(t, "0."+strings.Repeat("0", 4096)+"1"), "")
	checkExact(t, read(t, "0."+strings.Repeat("0", 3096)+"1e-1000"), "")
	checkExact(t, read(t, "0."+strings.Repeat("0", 3095)+"1e-1000"), "0."+strings.Repeat("0", 4095)+"1")
}
