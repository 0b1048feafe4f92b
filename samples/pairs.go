package samples

import (
	"slices"

	"credence/api"
)

// Pair is a fraction of two small numbers, in lowest terms, the lower one above
// 0: another way to reckon than the program's.
type Pair struct{ Num, Den int }

// NewPair is a pair in lowest terms; the lower number is not 0.
func NewPair(num, den int) Pair {
	x, y := num, den
	for y != 0 {
		x, y = y, x%y
	}
	if (x < 0) != (den < 0) {
		x = -x
	}
	return Pair{num / x, den / x}
}

// PairOf is a fraction of numbers of one limb at most as a pair.
func PairOf(a api.Rat) Pair {
	num, den := 0, 1
	if len(a.Num.Mag) > 0 {
		num = int(a.Num.Mag[0])
	}
	if a.Num.Neg {
		num = -num
	}
	if len(a.Den) > 0 && a.Den[0] != 0 {
		den = int(a.Den[0])
	}
	return NewPair(num, den)
}

// Rat is a pair as a fraction, which is normal.
func (a Pair) Rat() api.Rat {
	if a.Num == 0 {
		return api.Rat{Den: api.Nat{1}}
	}
	return Ratio(a.Num, a.Den)
}

// Neg is the opposite.
func (a Pair) Neg() Pair { return Pair{-a.Num, a.Den} }

// Plus is the sum.
func (a Pair) Plus(b Pair) Pair { return NewPair(a.Num*b.Den+b.Num*a.Den, a.Den*b.Den) }

// Minus is the difference.
func (a Pair) Minus(b Pair) Pair { return a.Plus(b.Neg()) }

// Times is the product.
func (a Pair) Times(b Pair) Pair { return NewPair(a.Num*b.Num, a.Den*b.Den) }

// Over is the quotient by one that is not 0.
func (a Pair) Over(b Pair) Pair { return NewPair(a.Num*b.Den, a.Den*b.Num) }

// SameLimbs is whether two fractions are the same, limb by limb: so what is
// held against a normal one is normal too.
func SameLimbs(a, b api.Rat) bool {
	return a.Num.Neg == b.Num.Neg && slices.Equal(a.Num.Mag, b.Num.Mag) && slices.Equal(a.Den, b.Den)
}

// Limbs are the lists of which some fractions are made.
func Limbs(numbers ...api.Rat) [][]uint32 {
	var out [][]uint32
	for _, a := range numbers {
		out = append(out, a.Num.Mag, a.Den)
	}
	return out
}
