package ring

import "math"

// Bools are yes and no.
type Bools struct{}

// Zero is no.
func (Bools) Zero() bool { return false }

// One is yes.
func (Bools) One() bool { return true }

// Add is either.
func (Bools) Add(a, b bool) bool { return a || b }

// Mul is both.
func (Bools) Mul(a, b bool) bool { return a && b }

// Same says whether they are the same.
func (Bools) Same(a, b bool) bool { return a == b }

// Ints are ints of 64 bits.
type Ints struct{}

// Zero is 0.
func (Ints) Zero() int { return 0 }

// One is 1.
func (Ints) One() int { return 1 }

// Add is the sum.
func (Ints) Add(a, b int) int { return a + b }

// Mul is the product.
func (Ints) Mul(a, b int) int { return a * b }

// Same says whether they are the same.
func (Ints) Same(a, b int) bool { return a == b }

// Floats are floats.
type Floats struct{}

// Zero is 0.
func (Floats) Zero() float64 { return 0 }

// One is 1.
func (Floats) One() float64 { return 1 }

// Add is the sum.
func (Floats) Add(a, b float64) float64 { return a + b }

// Mul is the product.
func (Floats) Mul(a, b float64) float64 {
	// The conversion keeps the product from being fused with a sum into which
	// it goes, should both be put in one place.
	return float64(a * b)
}

// Same says whether they are the same.
func (Floats) Same(a, b float64) bool {
	return a == b || math.IsNaN(a) && math.IsNaN(b)
}
