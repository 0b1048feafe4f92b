package expr

import (
	"credence/api"
	"credence/frac"
)

// one is 1.
func one() api.Rat {
	a, _ := frac.Of(1, 1)
	return a
}

// itself is x as a function of x.
func itself() api.Line { return api.Line{A: one(), D: one()} }

// opposite is a function's opposite.
func opposite(f api.Line) api.Line {
	f.A, f.B = frac.Neg(f.A), frac.Neg(f.B)
	return f
}

// plus is a function and a value.
func plus(f api.Line, k api.Rat) api.Line {
	f.A = frac.Add(f.A, frac.Mul(k, f.C))
	f.B = frac.Add(f.B, frac.Mul(k, f.D))
	return f
}

// times is a function so many times.
func times(f api.Line, k api.Rat) api.Line {
	f.A, f.B = frac.Mul(k, f.A), frac.Mul(k, f.B)
	return f
}

// openLeft is what a sign makes of a function and a value.
func openLeft(kind int8, f api.Line, k api.Rat) (api.Line, api.Errno) {
	switch kind {
	case api.TermPlus:
		return plus(f, k), api.OK
	case api.TermMinus:
		return plus(f, frac.Neg(k)), api.OK
	case api.TermTimes:
		return times(f, k), api.OK
	}
	share, code := frac.Div(one(), k)
	if code != api.OK {
		return api.Line{}, code
	}
	return times(f, share), api.OK
}

// openRight is what a sign makes of a value and a function.
func openRight(kind int8, k api.Rat, f api.Line) (api.Line, api.Errno) {
	switch kind {
	case api.TermPlus:
		return plus(f, k), api.OK
	case api.TermMinus:
		return plus(opposite(f), k), api.OK
	case api.TermTimes:
		return times(f, k), api.OK
	}
	if frac.Sign(f.A) == 0 && frac.Sign(f.B) == 0 {
		return api.Line{}, api.ErrZero
	}
	return times(api.Line{A: f.C, B: f.D, C: f.A, D: f.B}, k), api.OK
}

// settled is a function by those four of its numbers of which C is 1, or D
// where C is 0. One of the two never is: at first D is 1, and only what is
// not 0 whatever x is comes below a stroke.
func settled(f api.Line) api.Line {
	by := f.C
	if frac.Sign(by) == 0 {
		by = f.D
	}
	f.A, _ = frac.Div(f.A, by)
	f.B, _ = frac.Div(f.B, by)
	f.C, _ = frac.Div(f.C, by)
	f.D, _ = frac.Div(f.D, by)
	return f
}
