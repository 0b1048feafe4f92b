package nat_test

import (
	"testing"

	"credence/api"
	"credence/nat"
	"credence/samples"
)

// 1.5: Root.

func TestRoot(t *testing.T) {
	for _, c := range []struct{ a, want string }{
		{"0", "0"},
		{"1", "1"},
		{"2", "1"},
		{"3", "1"},
		{"4", "2"},
		{"15", "3"},
		{"16", "4"},
		{"17", "4"},
		{"18446744065119617025", "4294967295"},
		{"18446744073709551615", "4294967295"},
		{"18446744073709551616", "4294967296"},
		{"10000000000000000000000000000000000000000", "100000000000000000000"},
		{"9999999999999999999999999999999999999999", "99999999999999999999"},
	} {
		check(t, "Root("+c.a+")", nat.Root(read(t, c.a)), read(t, c.want))
	}
	check(t, "Root of noughts", nat.Root(num(0, 0, 0)), nil)
	check(t, "Root with noughts ahead", nat.Root(num(17, 0, 0)), num(4))
}

// isRoot checks the words of 1.5.
func isRoot(t *testing.T, a api.Nat) {
	t.Helper()
	r := nat.Root(a)
	check(t, "Root is normal", r, nat.Norm(r))
	if nat.Cmp(nat.Mul(r, r), a) == 1 {
		t.Fatalf("Root(%v): the square of %v is above it", short(a), short(r))
	}
	more := nat.Add(r, num(1))
	if nat.Cmp(nat.Mul(more, more), a) != 1 {
		t.Fatalf("Root(%v): %v is not the greatest", short(a), short(r))
	}
}

func TestRootHolds(t *testing.T) {
	for u := range uint64(3000) {
		isRoot(t, nat.Of(u))
	}
	for _, a := range append(samples.Nats(200, 20), samples.EdgeNats()...) {
		isRoot(t, a)
		square := nat.Mul(a, a)
		check(t, "Root of a square", nat.Root(square), nat.Norm(a))
		isRoot(t, nat.Add(square, num(1)))
		if less, ok := nat.Sub(square, num(1)); ok {
			isRoot(t, less)
		}
	}
}

// TestRootOfLongNumbers: a number is longer than any shift is wide.
func TestRootOfLongNumbers(t *testing.T) {
	check(t, "Root of 2^600000", nat.Root(two(600000)), two(300000))
	for n := 40000; n < 40010; n++ {
		isRoot(t, ones(n))
		isRoot(t, two(n))
	}
}
