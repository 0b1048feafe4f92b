package frac

import (
	"credence/api"
	"credence/whole"
)

// Add is the sum.
func Add(a, b api.Rat) api.Rat {
	return lowest(whole.Add(cross(a, b), cross(b, a)), whole.Mul(under(a), under(b)))
}

// Sub is the difference.
func Sub(a, b api.Rat) api.Rat {
	return lowest(whole.Sub(cross(a, b), cross(b, a)), whole.Mul(under(a), under(b)))
}

// Mul is the product.
func Mul(a, b api.Rat) api.Rat {
	return lowest(whole.Mul(a.Num, b.Num), whole.Mul(under(a), under(b)))
}

// Div is the quotient.
func Div(a, b api.Rat) (api.Rat, api.Errno) { return New(cross(a, b), cross(b, a)) }

// Sum is the sum of some.
func Sum(l ...api.Rat) api.Rat {
	sum := lowest(whole.Of(0), whole.Of(1))
	for _, a := range l {
		sum = Add(sum, a)
	}
	return sum
}
