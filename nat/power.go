package nat

import (
	"math/bits"

	"credence/api"
)

// Pow is a power.
func Pow(a api.Nat, n int) (api.Nat, api.Errno) {
	if n < 0 || n > api.MaxPower {
		return nil, api.ErrRange
	}
	// The power has more than this many bits: so none that is far too big is
	// ever worked out.
	if (Bits(a)-1)*n >= api.MaxBits {
		return nil, api.ErrBig
	}
	p := Of(1)
	for i := bits.Len(uint(n)) - 1; i >= 0; i-- {
		p = Mul(p, p)
		if n>>i&1 == 1 {
			p = Mul(p, a)
		}
	}
	if Bits(p) > api.MaxBits {
		return nil, api.ErrBig
	}
	return p, api.OK
}

// Shift is the number times a power of two, rounded down.
func Shift(a api.Nat, n int) (api.Nat, api.Errno) {
	if n < -api.MaxShift || n > api.MaxShift {
		return nil, api.ErrRange
	}
	a = trim(a)
	if n < 0 {
		return drop(a, -n), api.OK
	}
	return trim(lift(a, n)), api.OK
}

// lift is a number times 2^n, with room for one limb more than it may need.
func lift(a api.Nat, n int) api.Nat {
	skip, off := n/limbBits, n%limbBits
	out := make(api.Nat, len(a)+skip+1)
	for i, x := range a {
		wide := uint64(x) << off
		out[i+skip] |= uint32(wide)
		out[i+skip+1] = uint32(wide >> limbBits)
	}
	return out
}

// drop is a number over 2^n, rounded down.
func drop(a api.Nat, n int) api.Nat {
	skip, off := n/limbBits, n%limbBits
	if skip >= len(a) {
		return nil
	}
	out := make(api.Nat, len(a)-skip)
	for i := range out {
		wide := limb(a, i+skip) | limb(a, i+skip+1)<<limbBits
		out[i] = uint32(wide >> off)
	}
	return trim(out)
}
