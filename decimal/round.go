package decimal

import (
	"strings"

	"credence/api"
	"credence/nat"
)

// Round is a fraction as a decimal number of so many digits behind the point.
func Round(a api.Rat, digits int) (string, api.Errno) {
	if digits < 0 || digits > api.MaxDigits {
		return "", api.ErrRange
	}
	a = lowest(a)
	scaled := nat.Mul(a.Num.Mag, tenTo(digits))
	// Without the sign, half of the last digit more and then rounded down is
	// the nearest one, and of two the one farther from 0.
	twice := nat.Of(2)
	size, _, _ := nat.DivMod(nat.Add(nat.Mul(scaled, twice), a.Den), nat.Mul(a.Den, twice))
	return pointed(a.Num.Neg, size, digits), api.OK
}

// Exact is the decimal number that is just a fraction, if there is one.
func Exact(a api.Rat) (string, bool) {
	a = lowest(a)
	if !mayFit(a.Den, api.MaxDigits) {
		return "", false
	}
	behind, rest := places(a.Den)
	if behind > api.MaxDigits || !isOne(rest) {
		return "", false
	}
	size, _, _ := nat.DivMod(nat.Mul(a.Num.Mag, tenTo(behind)), a.Den)
	return pointed(a.Num.Neg, size, behind), true
}

// pointed is a number's text, its last digits behind a point, so many of them;
// below 0, if that is asked for and it is not 0.
func pointed(below bool, size api.Nat, behind int) string {
	s := nat.Text(size)
	s = strings.Repeat("0", max(behind+1-len(s), 0)) + s
	if behind > 0 {
		cut := len(s) - behind
		s = s[:cut] + "." + s[cut:]
	}
	if below && nat.Bits(size) != 0 {
		return "-" + s
	}
	return s
}
