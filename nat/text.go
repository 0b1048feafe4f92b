package nat

import (
	"slices"
	"strings"

	"credence/api"
)

// A limb takes this many digits at once, and no more: 10^9 is below 2^32.
const (
	chunkDigits = 9
	chunkBase   = 1000000000
)

// Text are the digits.
func Text(a api.Nat) string {
	rest := Norm(a)
	if len(rest) == 0 {
		return "0"
	}
	var digits []byte
	for len(rest) > 0 {
		chunk := divideBy(rest, chunkBase)
		rest = trim(rest)
		for range chunkDigits {
			digits = append(digits, '0'+byte(chunk%10))
			chunk /= 10
		}
	}
	slices.Reverse(digits)
	return strings.TrimLeft(string(digits), "0")
}

// Parse is the number of some digits.
func Parse(s string) (api.Nat, api.Errno) {
	if !digitsAlone(s) {
		return nil, api.ErrDigits
	}
	var a api.Nat
	for len(s) > 0 {
		n := min(len(s), chunkDigits)
		a = appendDigits(a, s[:n])
		s = s[n:]
	}
	return a, api.OK
}

// digitsAlone says whether a text is one or more digits.
func digitsAlone(s string) bool {
	for i := range len(s) {
		if s[i] < '0' || s[i] > '9' {
			return false
		}
	}
	return len(s) > 0
}

// appendDigits is the number with some digits put behind its own, in its own
// memory; they are no more than chunkDigits.
func appendDigits(a api.Nat, s string) api.Nat {
	var scale, carry uint64 = 1, 0
	for i := range len(s) {
		scale *= 10
		carry = carry*10 + uint64(s[i]-'0')
	}
	for i, x := range a {
		carry += uint64(x) * scale
		a[i] = uint32(carry)
		carry >>= limbBits
	}
	if carry != 0 {
		a = append(a, uint32(carry))
	}
	return a
}
