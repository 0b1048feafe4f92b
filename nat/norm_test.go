package nat_test

import (
	"math"
	"testing"

	"credence/api"
	"credence/nat"
	"credence/samples"
)

// 1.1: Norm, Of, Uint, Bits.

func TestNorm(t *testing.T) {
	for _, c := range []struct{ a, want api.Nat }{
		{num(5, 0, 0), num(5)},
		{num(0), nil},
		{nil, nil},
		{api.Nat{}, nil},
		{num(0, 0, 0), nil},
		{num(0, 7, 0), num(0, 7)},
		{num(0, 0, 1), num(0, 0, 1)},
		{num(full, full), num(full, full)},
	} {
		check(t, "Norm", nat.Norm(c.a), c.want)
	}
}

func TestOf(t *testing.T) {
	for _, c := range []struct {
		u    uint64
		want api.Nat
	}{
		{0, nil},
		{1, num(1)},
		{full, num(full)},
		{1 << 32, num(0, 1)},
		{1<<32 + 1, num(1, 1)},
		{math.MaxUint64, num(full, full)},
	} {
		check(t, "Of", nat.Of(c.u), c.want)
		if u, ok := nat.Uint(c.want); u != c.u || !ok {
			t.Errorf("Uint of %v: %d, %v", c.want, u, ok)
		}
	}
}

func TestUint(t *testing.T) {
	for _, c := range []struct {
		a  api.Nat
		u  uint64
		ok bool
	}{
		{num(1, 1), 4294967297, true},
		{num(0, 0, 1), 0, false},
		{num(5, 7, 1), 0, false},
		{num(full, full, full), 0, false},
		{num(0, 0, 0, 1), 0, false},
		{num(7, 0, 0, 0), 7, true},
		{num(0, 0, 0), 0, true},
		{num(full, full, 0), math.MaxUint64, true},
		{nil, 0, true},
	} {
		if u, ok := nat.Uint(c.a); u != c.u || ok != c.ok {
			t.Errorf("Uint(%v): %d, %v", c.a, u, ok)
		}
	}
}

func TestBits(t *testing.T) {
	for _, c := range []struct {
		a    api.Nat
		want int
	}{
		{nil, 0},
		{num(0, 0), 0},
		{num(1), 1},
		{num(255), 8},
		{num(256), 9},
		{num(full), 32},
		{num(0, 1), 33},
		{num(full, full, 0), 64},
		{num(0, 0, 1, 0), 65},
		{two(262144), 262145},
		{ones(262144), 262144},
	} {
		if got := nat.Bits(c.a); got != c.want {
			t.Errorf("Bits(%v): %d, want %d", short(c.a), got, c.want)
		}
	}
}

func TestBitsIsLeast(t *testing.T) {
	for _, a := range samples.EdgeNats() {
		n := nat.Bits(a)
		if nat.Cmp(a, two(n)) != -1 {
			t.Errorf("%v is not below 2^%d", a, n)
		}
		if n > 0 && nat.Cmp(a, two(n-1)) == -1 {
			t.Errorf("%v is below 2^%d", a, n-1)
		}
	}
}
