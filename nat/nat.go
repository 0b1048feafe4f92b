// Package nat is layer 1: natural numbers: shared/doc/01-nat.md.
package nat

import (
	"math/bits"

	"credence/api"
)

// limbBits is how many bits a limb has.
const limbBits = 32

// limbMask are the bits of the lowest limb in a uint64.
const limbMask = 1<<limbBits - 1

// Norm is a number without noughts ahead.
func Norm(a api.Nat) api.Nat { return fresh(trim(a)) }

// Of is the number of a uint64.
func Of(u uint64) api.Nat {
	return trim(api.Nat{uint32(u), uint32(u >> limbBits)})
}

// Uint is the uint64 of a number, if it has one.
func Uint(a api.Nat) (uint64, bool) {
	a = trim(a)
	if len(a) > 2 {
		return 0, false
	}
	return limb(a, 0) | limb(a, 1)<<limbBits, true
}

// Bits is how many bits a number has.
func Bits(a api.Nat) int {
	a = trim(a)
	if len(a) == 0 {
		return 0
	}
	top := len(a) - 1
	return top*limbBits + bits.Len32(a[top])
}

// Cmp is -1, 0 or 1.
func Cmp(a, b api.Nat) int {
	a, b = trim(a), trim(b)
	if len(a) != len(b) {
		return side(len(a) > len(b))
	}
	for i := len(a) - 1; i >= 0; i-- {
		if a[i] != b[i] {
			return side(a[i] > b[i])
		}
	}
	return 0
}

// side is what Cmp tells of two numbers that differ.
func side(greater bool) int {
	if greater {
		return 1
	}
	return -1
}

// trim is a number without noughts ahead, in the same memory: a caller gets
// it only where that memory was made for the answer.
func trim(a api.Nat) api.Nat {
	n := len(a)
	for n > 0 && a[n-1] == 0 {
		n--
	}
	return a[:n]
}

// fresh is a number in memory of its own.
func fresh(a api.Nat) api.Nat {
	c := make(api.Nat, len(a))
	copy(c, a)
	return c
}

// limb is a limb as a uint64, 0 where the number has none.
func limb(a api.Nat, i int) uint64 {
	if i >= len(a) {
		return 0
	}
	return uint64(a[i])
}
