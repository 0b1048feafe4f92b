package nat_test

import (
	"strings"
	"testing"

	"credence/api"
	"credence/nat"
	"credence/samples"
)

// 1.7: what follows.

// few are numbers of which all threes are gone through.
func few() []api.Nat {
	return append(samples.Nats(14, 9), nil, num(0), num(1), num(full, full), num(0, 0, 1), num(1<<31, 0))
}

func TestSumsAndProducts(t *testing.T) {
	for _, a := range few() {
		for _, b := range few() {
			check(t, "a + b", nat.Add(a, b), nat.Add(b, a))
			check(t, "a b", nat.Mul(a, b), nat.Mul(b, a))
			for _, c := range few() {
				check(t, "a + b + c", nat.Add(nat.Add(a, b), c), nat.Add(a, nat.Add(b, c)))
				check(t, "a b c", nat.Mul(nat.Mul(a, b), c), nat.Mul(a, nat.Mul(b, c)))
				check(t, "a (b + c)", nat.Mul(a, nat.Add(b, c)), nat.Add(nat.Mul(a, b), nat.Mul(a, c)))
			}
		}
	}
}

func TestGcdGoesThroughProducts(t *testing.T) {
	for _, a := range few() {
		for _, b := range few() {
			g := nat.Gcd(a, b)
			for _, c := range few() {
				check(t, "Gcd of c a and c b", nat.Gcd(nat.Mul(c, a), nat.Mul(c, b)), nat.Mul(c, g))
			}
			if len(g) == 0 {
				continue
			}
			x, r, _ := nat.DivMod(a, g)
			check(t, "a leaves", r, nil)
			y, r, _ := nat.DivMod(b, g)
			check(t, "b leaves", r, nil)
			check(t, "Gcd of what is left", nat.Gcd(x, y), num(1))
		}
	}
}

func TestPowersAdd(t *testing.T) {
	for _, a := range few() {
		for m := range 12 {
			for n := range 12 {
				x, e1 := nat.Pow(a, m)
				y, e2 := nat.Pow(a, n)
				z, e3 := nat.Pow(a, m+n)
				if e1 != api.OK || e2 != api.OK || e3 != api.OK {
					t.Fatalf("Pow(%v, %d and %d): %v, %v, %v", a, m, n, e1, e2, e3)
				}
				check(t, "a to the power m + n", z, nat.Mul(x, y))
			}
		}
	}
}

func TestShiftsAdd(t *testing.T) {
	for _, a := range few() {
		for _, m := range []int{0, 1, 31, 32, 33, 100, 131072} {
			for _, n := range []int{0, 1, 31, 32, 64, 131072} {
				x, _ := nat.Shift(a, m)
				x, _ = nat.Shift(x, n)
				y, e := nat.Shift(a, m+n)
				if e != api.OK {
					t.Fatalf("Shift by %d: %v", m+n, e)
				}
				check(t, "Shift by m, then n", x, y)
			}
		}
	}
}

func TestTextThereAndBack(t *testing.T) {
	for _, a := range append(samples.Nats(200, 15), samples.EdgeNats()...) {
		check(t, "Parse of Text", read(t, nat.Text(a)), nat.Norm(a))
	}
	for _, s := range []string{"0", "00", "5", "0005", "000000000000000000", "00123456789012345678901234567890", "1000"} {
		want := strings.TrimLeft(s[:len(s)-1], "0") + s[len(s)-1:]
		if got := nat.Text(read(t, s)); got != want {
			t.Errorf("Text of Parse(%s): %s", s, got)
		}
	}
}
