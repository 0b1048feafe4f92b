package nat

import "credence/api"

// Gcd is the greatest common divisor.
func Gcd(a, b api.Nat) api.Nat {
	a, b = Norm(a), Norm(b)
	if Cmp(a, b) < 0 {
		a, b = b, a
	}
	for len(b) > 2 {
		a, b = leap(a, b)
	}
	if len(b) == 0 {
		return a
	}
	_, left, _ := DivMod(a, b)
	x, _ := Uint(b)
	y, _ := Uint(left)
	return Of(gcdShort(x, y))
}

// gcdShort is Euclid's way with numbers that the machine divides itself.
func gcdShort(x, y uint64) uint64 {
	for y != 0 {
		x, y = y, x%y
	}
	return x
}

// leap goes on by one or more of Euclid's steps at once, where a is not below
// b and both are longer than 64 bits: most steps can be told from the highest
// bits alone (Lehmer), and dividing long numbers for each would take far longer.
func leap(a, b api.Nat) (api.Nat, api.Nat) {
	from := Bits(a) - 64
	s := foresee(window(a, from), window(b, from))
	if s.v0 == 0 {
		_, left, _ := DivMod(a, b)
		return b, left
	}
	if s.even {
		return blend(a, s.u0, b, s.v0), blend(b, s.v1, a, s.u1)
	}
	return blend(b, s.v0, a, s.u0), blend(a, s.u1, b, s.v1)
}

// steps tells what two neighbours in Euclid's row of a and b are made of. Where
// even holds they are u0 a - v0 b and v1 b - u1 a; else both are the other way
// round.
type steps struct {
	u0, v0, u1, v1 uint64
	even           bool
}

// foresee are the steps that a and b surely go, x and y being their highest
// bits. Collins's bound says how far x and y can be trusted. It keeps u0 to v1
// below 2^32 too: x v2 + y v1 stays what x was at first, below 2^64, and v2 is
// at most y, which is less than x, whenever a step is made.
func foresee(x, y uint64) steps {
	s := steps{u1: 1}
	var u2, v2 uint64 = 0, 1
	for y >= v2 && x-y >= s.v1+v2 {
		q := x / y
		x, y = y, x-q*y
		s.u0, s.u1, u2 = s.u1, u2, s.u1+q*u2
		s.v0, s.v1, v2 = s.v1, v2, s.v1+q*v2
		s.even = !s.even
	}
	return s
}

// window are the 64 bits of a number from a place on.
func window(a api.Nat, from int) uint64 {
	at, off := from/limbBits, from%limbBits
	return limb(a, at)>>off | limb(a, at+1)<<(limbBits-off) | limb(a, at+2)<<(2*limbBits-off)
}
