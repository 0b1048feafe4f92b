package decimal

import (
	"strings"

	"credence/api"
	"credence/frac"
	"credence/nat"
)

// Parse is the fraction of a decimal number, with an exponent or without.
func Parse(s string) (api.Rat, api.Errno) {
	p, ok := split(s)
	if !ok {
		return api.Rat{}, api.ErrNumber
	}
	exponent := small(p.exponent)
	if exponent > api.MaxExponent {
		return api.Rat{}, api.ErrNumber
	}
	if p.down {
		exponent = -exponent
	}
	return value(p, exponent), api.OK
}

// parts are those of a decimal number: the digits ahead of the point and
// behind it, and of its exponent; those that are not there are empty.
type parts struct {
	below, down             bool
	ahead, behind, exponent string
}

// split are a text's parts, if it is a decimal number.
func split(s string) (parts, bool) {
	var p parts
	s, p.below = strings.CutPrefix(s, "-")
	p.ahead, s = digits(s)
	ok := p.ahead != ""
	if rest, point := strings.CutPrefix(s, "."); point {
		p.behind, s = digits(rest)
		ok = ok && p.behind != ""
	}
	if strings.HasPrefix(s, "e") || strings.HasPrefix(s, "E") {
		p.exponent, s, p.down = signed(s[1:])
		ok = ok && p.exponent != ""
	}
	return p, ok && s == ""
}

// signed are the digits that a text begins with behind a sign or none, what
// is behind them, and whether the sign is a -.
func signed(s string) (string, string, bool) {
	rest, down := strings.CutPrefix(s, "-")
	if !down {
		rest = strings.TrimPrefix(s, "+")
	}
	run, rest := digits(rest)
	return run, rest, down
}

// digits are those that a text begins with, and what is behind them.
func digits(s string) (string, string) {
	for i, c := range s {
		if c < '0' || c > '9' {
			return s[:i], s[i:]
		}
	}
	return s, ""
}

// small is the number that some digits say, or MaxExponent and 1 if they say
// more: there may be any number of them.
func small(run string) int {
	n := 0
	for _, c := range run {
		n = min(n*10+int(c-'0'), api.MaxExponent+1)
	}
	return n
}

// value is the fraction that the parts mean, the exponent given.
func value(p parts, exponent int) api.Rat {
	// Noughts at the end say nothing, and long numbers take long.
	behind := strings.TrimRight(p.behind, "0")
	size, _ := nat.Parse(p.ahead + behind)
	shift := exponent - len(behind)
	num := api.Int{Neg: p.below, Mag: nat.Mul(size, tenTo(max(shift, 0)))}
	a, _ := frac.New(num, api.Int{Mag: tenTo(max(-shift, 0))})
	return a
}
