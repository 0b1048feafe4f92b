package nat_test

import (
	"slices"
	"strings"
	"testing"

	"credence/api"
	"credence/nat"
)

// full is the greatest limb.
const full = 1<<32 - 1

// num is the number of some limbs, the lowest first.
func num(limbs ...uint32) api.Nat { return limbs }

// two is 2^n, laid limb by limb, so that it hangs on no call that is tested.
func two(n int) api.Nat {
	a := make(api.Nat, n/32+1)
	a[n/32] = 1 << (n % 32)
	return a
}

// ones is 2^n - 1.
func ones(n int) api.Nat {
	a := make(api.Nat, n/32, n/32+1)
	for i := range a {
		a[i] = full
	}
	if n%32 > 0 {
		a = append(a, 1<<(n%32)-1)
	}
	return a
}

// read is the number of some digits.
func read(t *testing.T, s string) api.Nat {
	t.Helper()
	a, e := nat.Parse(s)
	if e != api.OK {
		t.Fatalf("Parse(%s): %v", s, e)
	}
	return a
}

// check holds an answer against the limbs that it should have: just these, so
// that it is normal too.
func check(t *testing.T, what string, got, want api.Nat) {
	t.Helper()
	if !slices.Equal(got, want) {
		t.Fatalf("%s: %v, want %v", what, short(got), short(want))
	}
}

// short is a number as far as a message shows it.
func short(a api.Nat) api.Nat { return a[:min(len(a), 12)] }

// The digits of a number to the base 10, and sums and products of them as on
// paper: slow, and without anything of what is tested.

// slow are the digits of a number.
func slow(a api.Nat) string {
	digits := "0"
	for i := len(a) - 1; i >= 0; i-- {
		digits = slowAdd(slowMul(digits, "4294967296"), slowSmall(a[i]))
	}
	return digits
}

// slowSmall are the digits of a limb.
func slowSmall(x uint32) string {
	digits := ""
	for ; x > 0; x /= 10 {
		digits = string(rune('0'+x%10)) + digits
	}
	return slowTrim(digits)
}

// slowTrim takes away the noughts ahead.
func slowTrim(s string) string {
	s = strings.TrimLeft(s, "0")
	if s == "" {
		return "0"
	}
	return s
}

// slowAdd is the sum.
func slowAdd(a, b string) string {
	sum := make([]byte, max(len(a), len(b))+1)
	carry := 0
	for i := range sum {
		if i < len(a) {
			carry += int(a[len(a)-1-i] - '0')
		}
		if i < len(b) {
			carry += int(b[len(b)-1-i] - '0')
		}
		sum[len(sum)-1-i] = byte('0' + carry%10)
		carry /= 10
	}
	return slowTrim(string(sum))
}

// slowMul is the product.
func slowMul(a, b string) string {
	cells := make([]int, len(a)+len(b))
	for i := range len(a) {
		for j := range len(b) {
			cells[i+j+1] += int(a[i]-'0') * int(b[j]-'0')
		}
	}
	digits := make([]byte, len(cells))
	carry := 0
	for i := len(cells) - 1; i >= 0; i-- {
		carry += cells[i]
		digits[i] = byte('0' + carry%10)
		carry /= 10
	}
	return slowTrim(string(digits))
}

// slowCmp is -1, 0 or 1.
func slowCmp(a, b string) int {
	if len(a) != len(b) {
		if len(a) < len(b) {
			return -1
		}
		return 1
	}
	return strings.Compare(a, b)
}
