package nat

import (
	"math/bits"

	"credence/api"
)

// DivMod is the quotient and what is left.
func DivMod(a, b api.Nat) (api.Nat, api.Nat, api.Errno) {
	a, b = trim(a), trim(b)
	if len(b) == 0 {
		return nil, nil, api.ErrZero
	}
	if Cmp(a, b) < 0 {
		return nil, fresh(a), api.OK
	}
	if len(b) == 1 {
		quo := fresh(a)
		left := divideBy(quo, b[0])
		return trim(quo), Of(uint64(left)), api.OK
	}
	quo, left := divideLong(a, b)
	return quo, left, api.OK
}

// divideBy divides a number by a limb where it stands and tells what is left.
func divideBy(a api.Nat, by uint32) uint32 {
	var left uint64
	for i := len(a) - 1; i >= 0; i-- {
		left = left<<limbBits | uint64(a[i])
		a[i] = uint32(left / uint64(by))
		left %= uint64(by)
	}
	return uint32(left)
}

// divideLong divides limb by limb, as on paper. b has two limbs or more, and
// is not above a. Both are shifted so that b's highest bit is set: so a guess
// out of the highest limbs is at most one too great.
func divideLong(a, b api.Nat) (api.Nat, api.Nat) {
	up := bits.LeadingZeros32(b[len(b)-1])
	left := lift(a, up)
	by := lift(b, up)[:len(b)]
	quo := make(api.Nat, len(a)-len(b)+1)
	for i := len(quo) - 1; i >= 0; i-- {
		part := left[i : i+len(b)+1]
		q := guess(part, by)
		if takeTimes(part, by, q) {
			q--
			putBack(part, by)
		}
		quo[i] = q
	}
	return trim(quo), drop(trim(left), up)
}

// guess is the quotient of part and by, or one more; part has a limb more
// than by and is less than 2^32 times it.
func guess(part, by api.Nat) uint32 {
	n := len(by)
	high, next := uint64(by[n-1]), uint64(by[n-2])
	top := uint64(part[n])<<limbBits | uint64(part[n-1])
	q, left := top/high, top%high
	for q > limbMask || q*next > left<<limbBits|uint64(part[n-2]) {
		q--
		left += high
		// From here on what is left outweighs whatever q times next can be.
		if left > limbMask {
			break
		}
	}
	return uint32(q)
}

// takeTimes takes by times q off part, and says whether that was too much:
// part has then wrapped round.
func takeTimes(part, by api.Nat, q uint32) bool {
	var carry, borrow uint64
	for i := range part {
		carry += limb(by, i) * uint64(q)
		d := uint64(part[i]) - carry&limbMask - borrow
		part[i] = uint32(d)
		borrow = d >> 63
		carry >>= limbBits
	}
	return borrow != 0
}

// putBack adds by to part, which wraps round again.
func putBack(part, by api.Nat) {
	var carry uint64
	for i := range part {
		carry += uint64(part[i]) + limb(by, i)
		part[i] = uint32(carry)
		carry >>= limbBits
	}
}
