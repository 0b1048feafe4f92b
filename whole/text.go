package whole

import (
	"strings"

	"credence/api"
	"credence/nat"
)

// Text are the digits, a stroke ahead of those below 0.
func Text(a api.Int) string {
	digits := nat.Text(a.Mag)
	if below(a) {
		return "-" + digits
	}
	return digits
}

// Parse is the number of a text.
func Parse(s string) (api.Int, api.Errno) {
	digits, neg := strings.CutPrefix(s, "-")
	size, err := nat.Parse(digits)
	if err != api.OK {
		return api.Int{}, err
	}
	return signed(neg, size), api.OK
}
