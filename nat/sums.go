package nat

import "credence/api"

// Add is the sum.
func Add(a, b api.Nat) api.Nat {
	a, b = trim(a), trim(b)
	sum := make(api.Nat, max(len(a), len(b))+1)
	var carry uint64
	for i := range sum {
		carry += limb(a, i) + limb(b, i)
		sum[i] = uint32(carry)
		carry >>= limbBits
	}
	return trim(sum)
}

// Sub is the difference, if there is one.
func Sub(a, b api.Nat) (api.Nat, bool) {
	a, b = trim(a), trim(b)
	if Cmp(a, b) < 0 {
		return nil, false
	}
	return blend(a, 1, b, 1), true
}

// Mul is the product.
func Mul(a, b api.Nat) api.Nat {
	a, b = trim(a), trim(b)
	if len(a) == 0 || len(b) == 0 {
		return nil
	}
	product := make(api.Nat, len(a)+len(b))
	for i, by := range b {
		product[i+len(a)] = addTimes(product[i:i+len(a)], a, by)
	}
	return trim(product)
}

// addTimes adds a times a limb to as many limbs and tells what is carried.
func addTimes(to, a api.Nat, by uint32) uint32 {
	var carry uint64
	for i, x := range a {
		// (2^32 - 1)^2 and twice 2^32 - 1 are just 2^64 - 1: nothing is lost.
		carry += uint64(x)*uint64(by) + uint64(to[i])
		to[i] = uint32(carry)
		carry >>= limbBits
	}
	return uint32(carry)
}

// blend is a u less b v. The caller knows that it is not below 0, has no more
// limbs than the longer of a and b, and that u and v are below 2^32.
func blend(a api.Nat, u uint64, b api.Nat, v uint64) api.Nat {
	out := make(api.Nat, max(len(a), len(b)))
	var plus, minus, borrow uint64
	for i := range out {
		plus += limb(a, i) * u
		minus += limb(b, i) * v
		d := plus&limbMask - minus&limbMask - borrow
		out[i] = uint32(d)
		// d wrapped round just if its highest bit is set.
		borrow = d >> 63
		plus >>= limbBits
		minus >>= limbBits
	}
	return trim(out)
}
