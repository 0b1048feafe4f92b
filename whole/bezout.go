package whole

import (
	"credence/api"
	"credence/nat"
)

// row is one of Euclid's rows: a number, and how often it takes the sizes of a
// and of b to make it.
type row [3]api.Int

// Bezout is the greatest common divisor, and two numbers that make it.
func Bezout(a, b api.Int) (api.Nat, api.Int, api.Int) {
	last := row{size(a), Of(1), Of(0)}
	next := row{size(b), Of(0), Of(1)}
	for Sign(next[0]) != 0 {
		last, next = next, step(last, next)
	}
	return last[0].Mag, onSideOf(a, last[1]), onSideOf(b, last[2])
}

// step is the row behind two neighbours.
func step(last, next row) row {
	quo, left, _ := Quo(last[0], next[0])
	return row{left, less(last[1], quo, next[1]), less(last[2], quo, next[2])}
}

// less is x less q times y.
func less(x, q, y api.Int) api.Int { return Sub(x, Mul(q, y)) }

// size is how far a number is from 0.
func size(a api.Int) api.Int { return signed(false, nat.Norm(a.Mag)) }

// onSideOf is x, turned round if a is below 0: it was found for a's size.
func onSideOf(a, x api.Int) api.Int {
	if below(a) {
		return Neg(x)
	}
	return x
}
