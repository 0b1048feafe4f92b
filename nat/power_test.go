package nat_test

import (
	"math"
	"testing"

	"credence/api"
	"credence/nat"
	"credence/samples"
)

// 1.4: Pow, Shift.

func TestPow(t *testing.T) {
	for _, c := range []struct {
		a    api.Nat
		n    int
		want api.Nat
	}{
		{num(2), 100, two(100)},
		{nil, 0, num(1)},
		{num(0, 0), 0, num(1)},
		{nil, 1, nil},
		{nil, 1024, nil},
		{num(0, 0), 3, nil},
		{num(1), 1024, num(1)},
		{num(1, 0), 0, num(1)},
		{num(5, 6, 0), 1, num(5, 6)},
		{num(10), 20, num(1661992960, 1808227885, 5)},
		{num(full), 2, num(1, full-1)},
		{num(3), 5, num(243)},
		{num(0, 1), 7, two(224)},
		{two(256), 1023, two(261888)},
		{two(255), 1024, two(261120)},
	} {
		got, e := nat.Pow(c.a, c.n)
		if e != api.OK {
			t.Errorf("Pow(%v, %d): %v", short(c.a), c.n, e)
		}
		check(t, "Pow", got, c.want)
	}
}

func TestPowOutOfRange(t *testing.T) {
	for _, n := range []int{-1, 1025, -1024, math.MinInt, math.MaxInt} {
		// A base whose power would be too big does not hide the exponent.
		for _, a := range []api.Nat{nil, num(1), num(2), two(262144)} {
			if got, e := nat.Pow(a, n); e != api.ErrRange || len(got) != 0 {
				t.Errorf("Pow(%v, %d): %v", short(a), n, e)
			}
		}
	}
}

// TestPowAtLastBit: a power may have 2^18 bits and no more.
func TestPowAtLastBit(t *testing.T) {
	root := nat.Root(ones(262144))
	// Their cubes are just below and just above 2^262144.
	below, _, _ := nat.DivMod(nat.Mul(two(87381), num(12599)), num(10000))
	above, _, _ := nat.DivMod(nat.Mul(two(87381), num(126)), num(100))
	for i, c := range []struct {
		a    api.Nat
		n    int
		bits int
		e    api.Errno
	}{
		{ones(256), 1024, 262144, api.OK},
		{two(256), 1024, 0, api.ErrBig},
		{ones(262144), 1, 262144, api.OK},
		{two(262143), 1, 262144, api.OK},
		{two(262144), 1, 0, api.ErrBig},
		{root, 2, 262144, api.OK},
		{nat.Add(root, num(1)), 2, 0, api.ErrBig},
		{two(131072), 2, 0, api.ErrBig},
		{two(262), 1000, 262001, api.OK},
		// By the bits of these bases alone the powers might still be short enough.
		{below, 3, 262144, api.OK},
		{above, 3, 0, api.ErrBig},
		{ones(263), 1000, 0, api.ErrBig},
		{ones(300000), 1024, 0, api.ErrBig},
		{ones(300000), 1, 0, api.ErrBig},
		{ones(300000), 0, 1, api.OK},
	} {
		got, e := nat.Pow(c.a, c.n)
		if e != c.e || nat.Bits(got) != c.bits {
			t.Errorf("row %d: %d bits, %v", i, nat.Bits(got), e)
		}
	}
}

func TestPowIsProduct(t *testing.T) {
	for _, a := range []api.Nat{num(2), num(3), num(full), num(7, 9), num(0, 1), num(full, full, full)} {
		want := num(1)
		for n := range 70 {
			got, e := nat.Pow(a, n)
			if e != api.OK {
				t.Fatalf("Pow(%v, %d): %v", a, n, e)
			}
			check(t, "Pow", got, want)
			want = nat.Mul(want, a)
		}
	}
}

func TestShift(t *testing.T) {
	for _, c := range []struct {
		a    api.Nat
		n    int
		want api.Nat
	}{
		{num(5), 3, num(40)},
		{num(5), -1, num(2)},
		{num(5), -9, nil},
		{num(5), 0, num(5)},
		{num(5, 6, 0), 0, num(5, 6)},
		{num(5, 0), 32, num(0, 5)},
		{num(5, 6, 7), -32, num(6, 7)},
		{num(5, 6, 7), -96, nil},
		{num(5, 6, 7), -66, num(1)},
		{num(full), 1, num(full-1, 1)},
		{num(full), 31, num(1<<31, 1<<31-1)},
		{num(full, full), -31, num(full, 1)},
		{num(full, full), -63, num(1)},
		{num(full, full), -64, nil},
		{nil, 40, nil},
		{nil, -40, nil},
		{num(0, 0), 262144, nil},
		{num(1), 262144, two(262144)},
		{num(1), 262143, two(262143)},
		{num(1), -262144, nil},
		{two(262144), -262144, num(1)},
		{two(262144), -262143, num(2)},
		{ones(262144), -262144, nil},
		{ones(262145), -262144, num(1)},
		{two(262144), 262144, two(524288)},
	} {
		got, e := nat.Shift(c.a, c.n)
		if e != api.OK {
			t.Errorf("Shift(%v, %d): %v", short(c.a), c.n, e)
		}
		check(t, "Shift", got, c.want)
	}
}

func TestShiftOutOfRange(t *testing.T) {
	for _, n := range []int{262145, -262145, math.MaxInt, math.MinInt, 1 << 32, -1 << 32} {
		for _, a := range []api.Nat{nil, num(1), num(1, 2, 3)} {
			if got, e := nat.Shift(a, n); e != api.ErrRange || len(got) != 0 {
				t.Errorf("Shift(%v, %d): %v, %v", a, n, got, e)
			}
		}
	}
}

func TestShiftIsTimesPowerOfTwo(t *testing.T) {
	for _, a := range append(samples.Nats(30, 6), samples.EdgeNats()...) {
		for n := range 100 {
			up, e := nat.Shift(a, n)
			if e != api.OK {
				t.Fatalf("Shift(%v, %d): %v", a, n, e)
			}
			check(t, "Shift up", up, nat.Mul(a, two(n)))
			down, e := nat.Shift(a, -n)
			if e != api.OK {
				t.Fatalf("Shift(%v, %d): %v", a, -n, e)
			}
			want, _, _ := nat.DivMod(a, two(n))
			check(t, "Shift down", down, want)
		}
	}
}
