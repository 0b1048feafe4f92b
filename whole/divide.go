package whole

import (
	"credence/api"
	"credence/nat"
)

// Floor is the quotient rounded down, and what is left.
func Floor(a, b api.Int) (api.Int, api.Int, api.Errno) {
	quo, left, err := Quo(a, b)
	// Rounding towards 0 went up if what is left lies on the other side than b.
	if err == api.OK && Sign(left)*Sign(b) < 0 {
		quo, left = Sub(quo, Of(1)), Add(left, b)
	}
	return quo, left, err
}

// Quo is the quotient rounded towards 0, and what is left.
func Quo(a, b api.Int) (api.Int, api.Int, api.Errno) {
	quo, left, err := nat.DivMod(a.Mag, b.Mag)
	if err != api.OK {
		return api.Int{}, api.Int{}, err
	}
	return signed(a.Neg != b.Neg, quo), signed(a.Neg, left), api.OK
}
