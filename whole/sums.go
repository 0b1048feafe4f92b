package whole

import (
	"credence/api"
	"credence/nat"
)

// Add is the sum.
func Add(a, b api.Int) api.Int {
	if a.Neg == b.Neg {
		return signed(a.Neg, nat.Add(a.Mag, b.Mag))
	}
	if size, ok := nat.Sub(a.Mag, b.Mag); ok {
		return signed(a.Neg, size)
	}
	size, _ := nat.Sub(b.Mag, a.Mag)
	return signed(b.Neg, size)
}

// Sub is the difference.
func Sub(a, b api.Int) api.Int { return Add(a, opposite(b)) }

// Mul is the product.
func Mul(a, b api.Int) api.Int { return signed(a.Neg != b.Neg, nat.Mul(a.Mag, b.Mag)) }
