package near

import (
	"credence/api"
	"credence/nat"
)

// How far a size is past the float below it, on the way to the next one.
const (
	nowhere = iota // it is that float
	early          // less than half of the way
	half           // just half of the way
	late           // more than half of the way
)

// place is where a size lies among floats.
type place struct {
	below uint64 // the number of the greatest finite one that is not above it
	past  int
}

// above is the number of the least float that is not below.
func (p place) above() uint64 {
	if p.past == nowhere {
		return p.below
	}
	return p.below + 1
}

// nearest is the number of the nearest float; of two as near, of the even one.
func (p place) nearest() uint64 {
	// Numbers are even where floats are: a float's last bit is its number's.
	if p.past == late || p.past == half && p.below%2 == 1 {
		return p.below + 1
	}
	return p.below
}

// find is the place of a fraction's size.
func (k kind) find(a api.Rat) place {
	num, den := a.Num.Mag, under(a)
	if nat.Bits(num) == 0 {
		return place{}
	}
	// The size is more than half of 2^guess, and less than twice that. What is
	// far out is told by this alone: numbers can only be shifted so far.
	switch guess := nat.Bits(num) - nat.Bits(den); {
	case guess > k.top:
		return k.beyond()
	case guess < k.least-1:
		return place{past: early}
	}
	return k.divide(num, den)
}

// beyond is the place of all that is as great as infinity counts.
func (k kind) beyond() place { return place{below: k.infinity() - 1, past: late} }

// divide is the place of a size that is neither 0 nor far out.
func (k kind) divide(num, den api.Nat) place {
	exponent := max(lead(num, den)+1-k.digits, k.least)
	den = raised(den, exponent)
	units, rest, _ := nat.DivMod(raised(num, -exponent), den)
	count, _ := nat.Uint(units)
	below := k.number(count, exponent)
	if below >= k.infinity() {
		return k.beyond()
	}
	return place{below: below, past: share(rest, den)}
}

// lead is the exponent of the greatest power of 2 that is not above a size.
func lead(num, den api.Nat) int {
	guess := nat.Bits(num) - nat.Bits(den)
	if nat.Cmp(raised(num, -guess), raised(den, guess)) < 0 {
		return guess - 1
	}
	return guess
}

// share says how much of a step a rest is.
func share(rest, step api.Nat) int {
	if nat.Bits(rest) == 0 {
		return nowhere
	}
	return half + nat.Cmp(raised(rest, 1), step)
}

// raised is a number times 2^n; itself, if n is below 0. It may be in the
// number's own memory: it is for reading on the spot.
func raised(a api.Nat, n int) api.Nat {
	if n <= 0 {
		return a
	}
	up, _ := nat.Shift(a, n)
	return up
}

// under is a fraction's denominator, 1 where that is 0. It may be in the
// fraction's own memory: it is for reading on the spot.
func under(a api.Rat) api.Nat {
	if nat.Bits(a.Den) == 0 {
		return nat.Of(1)
	}
	return a.Den
}
