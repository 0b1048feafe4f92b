package expr

import (
	"credence/api"
	"credence/frac"
)

// nowhere is the place that no term has.
const nowhere = -1

// part is what a part of an expression comes to: a value, or, if it is open,
// a function of the number that is left open in it.
type part struct {
	open  bool
	value api.Rat
	line  api.Line
}

// values are the ways to what an expression comes to, the number at a place
// being left open.
type values struct{ open int }

// number is what a number comes to.
func (v values) number(at int, a api.Rat) part {
	if at == v.open {
		return part{open: true, line: itself()}
	}
	// The sum of one is normal, and memory of its own.
	return part{value: frac.Sum(a)}
}

// neg is the opposite of a part.
func (values) neg(p part) part {
	if p.open {
		return part{open: true, line: opposite(p.line)}
	}
	return part{value: frac.Neg(p.value)}
}

// two is what a sign makes of two parts, of which one at most is open.
func (values) two(kind int8, left, right part) (part, api.Errno) {
	var both part
	var code api.Errno
	switch {
	case left.open:
		both.open = true
		both.line, code = openLeft(kind, left.line, right.value)
	case right.open:
		both.open = true
		both.line, code = openRight(kind, left.value, right.line)
	default:
		both.value, code = together(kind, left.value, right.value)
	}
	return both, code
}

// together is what a sign makes of two values.
func together(kind int8, left, right api.Rat) (api.Rat, api.Errno) {
	switch kind {
	case api.TermPlus:
		return frac.Add(left, right), api.OK
	case api.TermMinus:
		return frac.Sub(left, right), api.OK
	case api.TermTimes:
		return frac.Mul(left, right), api.OK
	}
	return frac.Div(left, right)
}
