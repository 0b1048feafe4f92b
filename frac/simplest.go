package frac

import (
	"credence/api"
	"credence/whole"
)

// Simplest is the fraction with the least denominator between two.
func Simplest(a, b api.Rat) (api.Rat, api.Errno) {
	switch {
	case Cmp(a, b) > 0:
		return api.Rat{}, api.ErrRange
	case Sign(a) > 0:
		return between(a, b), api.OK
	case Sign(b) < 0:
		return Neg(between(Neg(b), Neg(a))), api.OK
	}
	return Sum(), api.OK
}

// between is the simplest fraction from a to b, which are above 0. As long as
// no whole number lies from low to high, all fractions there have one first
// term, and the simplest of them has the simplest rest. Turned round, the rest
// of low is the higher one.
func between(a, b api.Rat) api.Rat {
	low, high := ratio{a.Num, under(a)}, ratio{b.Num, under(b)}
	last, next := ratio{whole.Of(0), whole.Of(1)}, ratio{whole.Of(1), whole.Of(0)}
	for {
		term, lowRest := low.split()
		most, highRest := high.split()
		switch {
		case !lowRest.some():
			return ended(last, next, term)
		case whole.Cmp(term, most) < 0:
			return ended(last, next, whole.Add(term, whole.Of(1)))
		}
		last, next = next, follow(last, next, term)
		low, high = highRest, lowRest
	}
}

// ended is the fraction of some terms and a last one. It is in lowest terms, as
// all that follow one another so are.
func ended(last, next ratio, term api.Int) api.Rat {
	all := follow(last, next, term)
	return api.Rat{Num: all.num, Den: all.den.Mag}
}
