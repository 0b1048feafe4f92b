package ring

import (
	"credence/api"
	"credence/frac"
)

// Slope is a number and how fast it grows.
type Slope struct {
	At, By api.Rat
}

// Slopes are numbers and how fast they grow.
type Slopes struct{}

// Zero is 0, which does not grow.
func (Slopes) Zero() Slope { return Slope{At: Rats{}.Zero(), By: Rats{}.Zero()} }

// One is 1, which does not grow.
func (Slopes) One() Slope { return Slope{At: Rats{}.One(), By: Rats{}.Zero()} }

// Add is the sum.
func (Slopes) Add(a, b Slope) Slope {
	return Slope{At: frac.Add(a.At, b.At), By: frac.Add(a.By, b.By)}
}

// Mul is the product.
func (Slopes) Mul(a, b Slope) Slope {
	return Slope{
		At: frac.Mul(a.At, b.At),
		By: frac.Add(frac.Mul(a.At, b.By), frac.Mul(a.By, b.At)),
	}
}

// Same says whether they are the same.
func (Slopes) Same(a, b Slope) bool {
	return Rats{}.Same(a.At, b.At) && Rats{}.Same(a.By, b.By)
}
