package ring

import (
	"credence/api"
	"credence/frac"
)

// Rats are fractions.
type Rats struct{}

// Zero is 0.
func (Rats) Zero() api.Rat { return frac.Sum() }

// One is 1.
func (Rats) One() api.Rat {
	one, _ := frac.Of(1, 1)
	return one
}

// Add is the sum.
func (Rats) Add(a, b api.Rat) api.Rat { return frac.Add(a, b) }

// Mul is the product.
func (Rats) Mul(a, b api.Rat) api.Rat { return frac.Mul(a, b) }

// Same says whether they are the same.
func (Rats) Same(a, b api.Rat) bool { return frac.Cmp(a, b) == 0 }

// Most are fractions not below 0, of which the greater one is the sum.
type Most struct{}

// Zero is 0.
func (Most) Zero() api.Rat { return Rats{}.Zero() }

// One is 1.
func (Most) One() api.Rat { return Rats{}.One() }

// Add is the greater one.
func (Most) Add(a, b api.Rat) api.Rat {
	greater := a
	if frac.Cmp(a, b) < 0 {
		greater = b
	}
	// A sum of one, since what is answered must be normal and new memory.
	return frac.Sum(greater)
}

// Mul is the product.
func (Most) Mul(a, b api.Rat) api.Rat { return Rats{}.Mul(a, b) }

// Same says whether they are the same.
func (Most) Same(a, b api.Rat) bool { return Rats{}.Same(a, b) }
