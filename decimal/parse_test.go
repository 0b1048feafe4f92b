package decimal_test

import (
	"regexp"
	"strconv"
	"strings"
	"testing"

	"credence/api"
	"credence/decimal"
	"credence/frac"
	"credence/nat"
)

// 4.1: Parse.

func TestParse(t *testing.T) {
	for s, want := range map[string]api.Rat{
		"0.50":       raw(1, 2),
		"-12":        raw(-12, 1),
		"1.5e-3":     raw(3, 2000),
		"2E+2":       raw(200, 1),
		"007.0e0000": raw(7, 1),
		"-1.25":      raw(-5, 4),
		"-0.125e1":   raw(-5, 4),
		"-0.125E+01": raw(-5, 4),
		"12.5e1":     raw(125, 1),
		"12.5e2":     raw(1250, 1),
		"12.50e-1":   raw(5, 4),
		"10e-1":      raw(1, 1),
		"100.00e-2":  raw(1, 1),
		"3e0":        raw(3, 1),
		"3e-0":       raw(3, 1),
		"0.1":        raw(1, 10),
		"0.9999":     raw(9999, 10000),
		"00012.0300": raw(1203, 100),
		"1.000001e6": raw(1000001, 1),
		"0000000000000000000000000000000000000000000000001.0000000000000000000000000000000": raw(1, 1),
		"18446744073709551616":               long(false, api.Nat{0, 0, 1}, api.Nat{1}),
		"-1844674407370955161.6e1":           long(true, api.Nat{0, 0, 1}, api.Nat{1}),
		"0.00000000023283064365386962890625": long(false, api.Nat{1}, api.Nat{0, 1}),
		"-2.3283064365386962890625e-10":      long(true, api.Nat{1}, api.Nat{0, 1}),
	} {
		check(t, "Parse of "+s, read(t, s), want)
	}
}

func TestParseOfNought(t *testing.T) {
	nought := long(false, nil, api.Nat{1})
	for _, s := range []string{"0", "-0", "000", "0.0", "-0.000", "0e5", "-0e-5", "0e1000", "-0.0E-1000", "0.0000e+0"} {
		check(t, "Parse of "+s, read(t, s), nought)
	}
}

func TestParseOfOthers(t *testing.T) {
	for _, s := range []string{
		"", ".5", "5.", "+1", "1e", "0x1", "1e+", "1e-", "1E", "--1", "1 ", " 1", "-", ".", "-.", "-.5", "-5.", "e", "e5", "-e5", ".e5", "5.e5", ".5e5",
		"1..5", "1.5.", "1.5.5", "1e5.", "1e5.5", "1e.5", "1ee5", "1e5e5", "1eE5", "1e+-5", "1e-+5", "1e++5", "1e--5", "1e 5", "1e5 ", "- 1", "1-", "1+", "1.-5",
		"1.+5", "1.5-", "1,5", "1_000", "1'000", "1e1_0", "1/2", "inf", "nan", "NaN", "Inf", "-inf", "0b1", "0o7", "1p5", "0x1p5", "1f", "1.5f", "1e5f", "1\n", "\n1",
		"1\x00", "\x001", "1.\x005", "1\xff", "\xff", "1.5\xc3", "\u0661", "1.\u0665", "1e\u0665", "\u22121", "1\u00b75", "\uff11", "1e\u22125", "1\u20ac",
	} {
		checkNoNumber(t, s)
	}
}

// checkNoNumber looks for the error of a text that is no decimal number, and
// for Go's zero value beside it.
func checkNoNumber(t *testing.T, s string) {
	t.Helper()
	if a, e := decimal.Parse(s); e != api.ErrNumber || a.Num.Neg || len(a.Num.Mag) != 0 || len(a.Den) != 0 {
		t.Fatalf("Parse of %q: %v, %v", s, a, e)
	}
}

func TestParseOfExponents(t *testing.T) {
	ten := power(10, 1000)
	up, down := long(false, ten, nat.Of(1)), long(true, nat.Of(1), ten)
	check(t, "10^1000", read(t, "1e1000"), up)
	check(t, "10^1000", read(t, "1E+0001000"), up)
	check(t, "10^998", read(t, "0.01e"+strings.Repeat("0", 5000)+"1000"), long(false, power(10, 998), nat.Of(1)))
	check(t, "-10^-1000", read(t, "-1e-1000"), down)
	check(t, "-10^-1000", read(t, "-1e-0001000"), down)
	check(t, "10^-2000", read(t, "0."+strings.Repeat("0", 999)+"1e-1000"), over(ten, ten))
	check(t, "1", read(t, "0."+strings.Repeat("0", 999)+"1e1000"), raw(1, 1))
	check(t, "1", read(t, "1"+strings.Repeat("0", 1000)+"e-1000"), raw(1, 1))
	for _, digits := range []string{
		"1001", "1002", "0001001", "1010", "1100", "2000", "9999", "10000", "65537", "100000", "2147483648", "2147483649", "4294967296", "4294967297",
		"9223372036854775808", "9223372036854775809", "18446744073709551616", "18446744073709551617", "18446744073709551616000", strings.Repeat("1", 5000), "1" + strings.Repeat("0", 5000),
	} {
		for _, ahead := range []string{"1e", "1E+", "-1e-", "0e", "-0.00e-", "0.001e", "1000e-"} {
			checkNoNumber(t, ahead+digits)
		}
	}
}

// TestParseOfLongOnes: there is no end to the digits on either side.
func TestParseOfLongOnes(t *testing.T) {
	third := strings.Repeat("3", 3000)
	ten := power(10, 3000)
	digits, _ := nat.Parse(third)
	check(t, "3000 digits ahead", read(t, "-"+third), long(true, digits, nat.Of(1)))
	check(t, "3000 digits behind", read(t, "0."+third), lowered(long(false, digits, ten)))
	check(t, "3000 on either side", read(t, third+"."+third), lowered(long(false, nat.Add(nat.Mul(digits, ten), digits), ten)))
	check(t, "the lowest digit alone", read(t, "0."+strings.Repeat("0", 2999)+"1"), over(ten))
	check(t, "noughts alone", read(t, "5."+strings.Repeat("0", 100000)), raw(5, 1))
}

// TestParseOfEachByte: no byte may stand where the words do not say so.
func TestParseOfEachByte(t *testing.T) {
	for b := range 256 {
		c := string([]byte{byte(b)})
		digit := strings.Contains("0123456789", c)
		mark := c == "e" || c == "E"
		sign := c == "-" || c == "+"
		for s, may := range map[string]bool{
			c: digit, c + "5": digit || c == "-", "5" + c: digit, "5" + c + "5": digit || mark || c == ".",
			"5." + c: digit, "5." + c + "5": digit, "5.5" + c + "5": digit || mark, "5e" + c: digit, "5e" + c + "5": digit || sign, "5e5" + c: digit, "5.5e-" + c: digit, "5.5e-5" + c: digit,
		} {
			if _, e := decimal.Parse(s); may != (e == api.OK) || !may && e != api.ErrNumber {
				t.Errorf("Parse of %q: %v", s, e)
			}
		}
	}
}

// shape is what a decimal number is, its parts apart.
var shape = regexp.MustCompile(`^(-?)([0-9]+)(?:\.([0-9]+))?(?:[eE]([+-]?[0-9]+))?$`)

// meant is what a short text means, digit by digit, and whether it means
// anything.
func meant(s string) (api.Rat, bool) {
	p := shape.FindStringSubmatch(s)
	if p == nil {
		return api.Rat{}, false
	}
	exponent := 0
	if p[4] != "" {
		exponent, _ = strconv.Atoi(p[4])
	}
	if max(exponent, -exponent) > api.MaxExponent {
		return api.Rat{}, false
	}
	a := raw(0, 1)
	for _, c := range p[2] + p[3] {
		a = frac.Add(frac.Mul(a, raw(10, 1)), raw(int(c-'0'), 1))
	}
	for range max(exponent-len(p[3]), 0) {
		a = frac.Mul(a, raw(10, 1))
	}
	for range max(len(p[3])-exponent, 0) {
		a = frac.Mul(a, raw(1, 10))
	}
	if p[1] == "-" {
		a = frac.Neg(a)
	}
	return a, true
}

// texts are all texts of up to so many of some letters.
func texts(letters string, most int) []string {
	list := []string{""}
	longest := list
	for range most {
		var longer []string
		for _, s := range longest {
			for _, c := range letters {
				longer = append(longer, s+string(c))
			}
		}
		list = append(list, longer...)
		longest = longer
	}
	return list
}

// TestParseOfAllShortTexts: all texts of up to six of the bytes that may stand
// in a number.
func TestParseOfAllShortTexts(t *testing.T) {
	count := 0
	for _, s := range texts("-+.eE05", 6) {
		want, ok := meant(s)
		if !ok {
			checkNoNumber(t, s)
			continue
		}
		count++
		check(t, "Parse of "+s, read(t, s), want)
	}
	if count < 1000 {
		t.Errorf("%d numbers in all", count)
	}
}
