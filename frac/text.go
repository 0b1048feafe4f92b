package frac

import (
	"strings"

	"credence/api"
	"credence/nat"
	"credence/whole"
)

// Text is a fraction as text.
func Text(a api.Rat) string {
	a = lowest(a.Num, under(a))
	digits := whole.Text(a.Num)
	if nat.Cmp(a.Den, nat.Of(1)) == 0 {
		return digits
	}
	return digits + "/" + nat.Text(a.Den)
}

// Parse is the fraction of a text.
func Parse(s string) (api.Rat, api.Errno) {
	top, bottom, stroke := strings.Cut(s, "/")
	if !stroke {
		bottom = "1"
	}
	num, err := whole.Parse(top)
	if err != api.OK {
		return api.Rat{}, err
	}
	den, err := nat.Parse(bottom)
	if err != api.OK {
		return api.Rat{}, err
	}
	return New(num, api.Int{Mag: den})
}
