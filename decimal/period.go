package decimal

import (
	"credence/api"
	"credence/nat"
)

// Period are the digits behind the point: those ahead of the period, and the period.
func Period(a api.Rat, most int) (string, string, api.Errno) {
	if most < 0 || most > api.MaxDigits {
		return "", "", api.ErrRange
	}
	a = lowest(a)
	if !mayFit(a.Den, most) {
		return "", "", api.ErrMany
	}
	ahead, rest := places(a.Den)
	if ahead > most {
		return "", "", api.ErrMany
	}
	d := begin(a)
	first := d.take(ahead)
	if isOne(rest) {
		return first, "", api.OK
	}
	second, ok := d.round(most - ahead)
	if !ok {
		return "", "", api.ErrMany
	}
	return first, second, api.OK
}

// dividing tells a fraction's digits behind the point, one by one: what is
// left so far, and what it is divided by.
type dividing struct{ left, by api.Nat }

// begin is ahead of the first digit behind the point of a fraction without its
// sign.
func begin(a api.Rat) *dividing {
	_, left, _ := nat.DivMod(a.Num.Mag, a.Den)
	return &dividing{left: left, by: a.Den}
}

// digit is the next one.
func (d *dividing) digit() byte {
	next, left, _ := nat.DivMod(nat.Mul(d.left, nat.Of(10)), d.by)
	d.left = left
	n, _ := nat.Uint(next)
	return '0' + byte(n)
}

// take are the next digits, so many.
func (d *dividing) take(count int) string {
	digits := make([]byte, count)
	for i := range digits {
		digits[i] = d.digit()
	}
	return string(digits)
}

// round are the next digits until there is left what was left at first, if
// they are no more than most.
func (d *dividing) round(most int) (string, bool) {
	first := d.left
	var digits []byte
	for range most {
		digits = append(digits, d.digit())
		if nat.Cmp(d.left, first) == 0 {
			return string(digits), true
		}
	}
	return "", false
}
