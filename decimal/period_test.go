package decimal_test

import (
	"math"
	"strings"
	"testing"

	"credence/api"
	"credence/decimal"
	"credence/frac"
	"credence/nat"
)

// 4.4: Period; of 4.5: what it says of a fraction.

func TestPeriod(t *testing.T) {
	for _, c := range []struct {
		num, den, most int
		first, second  string
	}{
		{1, 3, 9, "", "3"}, {1, 6, 9, "1", "6"}, {-22, 7, 9, "", "142857"}, {5, 4, 9, "25", ""}, {5, 1, 0, "", ""},
		{1, 7, 6, "", "142857"}, {1, 12, 3, "08", "3"},
		{1, 3, 1, "", "3"}, {2, 3, 1, "", "6"}, {-1, 3, 1, "", "3"}, {10, 3, 1, "", "3"}, {1, 9, 1, "", "1"}, {8, 9, 1, "", "8"}, {1, 11, 2, "", "09"}, {10, 11, 2, "", "90"},
		{1, 99, 2, "", "01"}, {1, 2, 1, "5", ""}, {1, 100, 2, "01", ""}, {1, 90, 2, "0", "1"}, {1, 30, 2, "0", "3"}, {1, 13, 6, "", "076923"}, {1, 17, 16, "", "0588235294117647"},
		{1, 14, 7, "0", "714285"}, {7, 12, 3, "58", "3"}, {1, 101, 4, "", "0099"}, {1, 1024, 10, "0009765625", ""}, {0, 1, 0, "", ""}, {0, 7, 0, "", ""}, {14, 7, 0, "", ""},
		{3, 9, 1, "", "3"}, {6, 12, 1, "5", ""}, {-7, 0, 0, "", ""}, {1, 81, 9, "", "012345679"}, {-999, 1000, 3, "999", ""},
	} {
		checkPeriod(t, raw(c.num, c.den), c.most, c.first, c.second)
		if c.most > 0 && len(c.first+c.second) == c.most {
			checkNoPeriod(t, raw(c.num, c.den), c.most-1, api.ErrMany)
		}
	}
	checkNoPeriod(t, raw(1, 7), 5, api.ErrMany)
	checkNoPeriod(t, raw(1, 12), 2, api.ErrMany)
	for _, a := range zeros() {
		checkPeriod(t, a, 0, "", "")
		checkPeriod(t, a, 4096, "", "")
	}
}

func TestPeriodOutOfRange(t *testing.T) {
	for _, most := range []int{-1, -2, math.MinInt, 4097, 1 << 32, 1<<32 + 5, math.MaxInt} {
		for _, a := range []api.Rat{{}, raw(1, 1), raw(1, 7), raw(1, 0), over(power(3, 9000))} {
			checkNoPeriod(t, a, most, api.ErrRange)
		}
	}
}

// periodOf are the digits of a small fraction as dividing tells them, up to the
// first place at which something is left that was left before.
func periodOf(num, den int) (string, string) {
	left := max(num, -num) % den
	place := map[int]int{}
	digits := ""
	for {
		if at, again := place[left]; again {
			if strings.Trim(digits[at:], "0") == "" {
				return digits[:at], ""
			}
			return digits[:at], digits[at:]
		}
		place[left] = len(digits)
		digits += string(rune('0' + left*10/den))
		left = left * 10 % den
	}
}

func TestSmallPeriod(t *testing.T) {
	for _, num := range row(-12, 40) {
		for _, den := range row(1, 130) {
			first, second := periodOf(num, den)
			all := len(first + second)
			checkPeriod(t, raw(num, den), all, first, second)
			checkPeriod(t, raw(num, den), 4096, first, second)
			if all > 0 {
				checkNoPeriod(t, raw(num, den), all-1, api.ErrMany)
				checkNoPeriod(t, raw(num, den), 0, api.ErrMany)
			}
		}
	}
}

func TestLongerPeriod(t *testing.T) {
	few, many := 0, 0
	for _, den := range row(4090, 4140) {
		first, second := periodOf(1, den)
		if len(first+second) > 4096 {
			checkNoPeriod(t, raw(1, den), 4096, api.ErrMany)
			many++
			continue
		}
		checkPeriod(t, raw(1, den), 4096, first, second)
		few++
	}
	if few < 5 || many < 1 {
		t.Errorf("%d may be told, %d may not", few, many)
	}
}

func TestPeriodAtTheEnd(t *testing.T) {
	noughts := strings.Repeat("0", 4095)
	checkPeriod(t, over(nines(4096)), 4096, "", noughts+"1")
	checkNoPeriod(t, over(nines(4096)), 4095, api.ErrMany)
	checkNoPeriod(t, over(nines(4097)), 4096, api.ErrMany)
	checkPeriod(t, over(nines(4095), nat.Of(10)), 4096, "0", noughts[:4094]+"1")
	checkNoPeriod(t, over(nines(4096), nat.Of(2)), 4096, api.ErrMany)
	checkNoPeriod(t, over(nines(4096), nat.Of(5)), 4096, api.ErrMany)
	checkPeriod(t, over(power(10, 4096)), 4096, noughts+"1", "")
	checkNoPeriod(t, over(power(10, 4096)), 4095, api.ErrMany)
	checkNoPeriod(t, over(power(10, 4097)), 4096, api.ErrMany)
	checkPeriod(t, over(power(10, 4095), nat.Of(9)), 4096, noughts, "1")
	checkNoPeriod(t, over(power(10, 4096), nat.Of(3)), 4096, api.ErrMany)
	checkNoPeriod(t, over(power(2, 4097)), 4096, api.ErrMany)
	checkNoPeriod(t, over(power(3, 9000)), 4096, api.ErrMany)
	checkNoPeriod(t, over(power(3, 8000)), 4096, api.ErrMany)
	p, q, e := decimal.Period(over(power(2, 4096)), 4096)
	if len(p) != 4096 || q != "" || e != api.OK {
		t.Errorf("Period of 2^-4096: %d and %d digits, %v", len(p), len(q), e)
	}
	// Far behind the end: none of it may be worked out digit by digit.
	checkNoPeriod(t, long(false, nat.Of(1), append(make(api.Nat, 1<<20), 1)), 4096, api.ErrMany)
	checkPeriod(t, long(true, power(10, 5000), nat.Of(3)), 1, "", "3")
	checkPeriod(t, long(true, power(3, 9000), nat.Mul(power(3, 9001), nat.Of(2))), 2, "1", "6")
}

// behindThePoint is the fraction of some digits and a period behind them.
func behindThePoint(t *testing.T, first, second string) api.Rat {
	t.Helper()
	a := read(t, "0"+first)
	if second != "" {
		a = frac.Add(a, frac.Mul(read(t, second), over(nines(len(second)))))
	}
	return frac.Mul(a, over(power(10, len(first))))
}

func TestPeriodSaysTheFraction(t *testing.T) {
	told, ended := 0, 0
	for _, a := range append(few(), raw(1, 7), raw(355, 113), raw(-1, 1<<31-1), long(true, api.Nat{5, 5, 5}, api.Nat{0, 7}), long(true, api.Nat{7, 7, 7}, api.Nat{999999999})) {
		first, second, e := decimal.Period(a, 4096)
		_, exact := decimal.Exact(a)
		if e != api.OK {
			if checkNoPeriod(t, a, 4096, api.ErrMany); exact {
				t.Fatalf("Period of %v: %v", a, e)
			}
			continue
		}
		told++
		if exact {
			ended++
		}
		if exact != (second == "") {
			t.Fatalf("Period of %v: %s, %s", a, first, second)
		}
		size := lowered(a)
		size.Num.Neg = false
		behind := frac.Sub(size, api.Rat{Num: frac.Floor(size)})
		check(t, "what is behind the point", behindThePoint(t, first, second), behind)
		all := len(first + second)
		checkPeriod(t, a, all, first, second)
		if all > 0 {
			checkNoPeriod(t, a, all-1, api.ErrMany)
		}
	}
	if ended < 20 || told-ended < 20 {
		t.Errorf("%d told, %d of them with an end", told, ended)
	}
}
