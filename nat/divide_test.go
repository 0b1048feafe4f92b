package nat_test

import (
	"testing"

	"credence/api"
	"credence/nat"
	"credence/samples"
)

// 1.3: DivMod, Gcd.

// division is a row: a divided by b is q, and r is left.
type division struct{ a, b, q, r api.Nat }

// checkDivisions holds DivMod against some rows.
func checkDivisions(t *testing.T, rows []division) {
	t.Helper()
	for _, c := range rows {
		q, r, e := nat.DivMod(c.a, c.b)
		if e != api.OK {
			t.Errorf("DivMod(%v, %v): %v", c.a, c.b, e)
		}
		check(t, "quotient", q, c.q)
		check(t, "what is left", r, c.r)
	}
}

func TestDivMod(t *testing.T) {
	checkDivisions(t, []division{
		{num(100), num(7), num(14), num(2)},
		{num(0, 0, 1), num(1, 1), num(full), num(1)},
		{nil, num(3), nil, nil},
		{num(0, 0), num(3, 0), nil, nil},
		{num(5), num(0, 0, 1), nil, num(5)},
		{num(5, 0, 0), num(7), nil, num(5)},
		{num(5, 9), num(6, 9), nil, num(5, 9)},
		{num(5, 9), num(5, 9, 0), num(1), nil},
		{num(5, 9), num(1), num(5, 9), nil},
		{num(full, full, full), num(full), num(1, 1, 1), nil},
		{num(0, 0, 1), num(full), num(1, 1), num(1)},
		{num(0, 0, 0, 1), num(0, 1), num(0, 0, 1), nil},
		{num(7, 0, 0, 1), num(0, 0, 1), num(0, 1), num(7)},
		{num(full, full, full, full), num(full, full), num(1, 0, 1), nil},
	})
}

// TestDivModGuesses: in these rows a limb that is guessed out of the highest
// ones is too great, by one or by two, or would not even be a limb.
func TestDivModGuesses(t *testing.T) {
	checkDivisions(t, []division{
		{num(0, full-1, 1<<31), num(full, 1<<31), num(full), num(full, 1<<31-1)},
		{num(3, 0, 1<<31), num(1, 0, 1<<29), num(3), num(0, 0, 1<<29)},
		{num(3, 0, 1<<15), num(1, 0, 1<<13), num(3), num(0, 0, 1<<13)},
		{num(0, 0, 1<<15, 1<<15-1), num(1, 0, 1<<15), num(0xfffe0000), num(0x20000, full, 1<<15-1)},
		{num(0, 0xfffe, 0, 1<<15), num(0xffff, 0, 1<<15), num(full), num(0xffff, full, 1<<15-1)},
		{num(0, full-1, 0, 1<<31), num(0xffff, 0, 1<<31), num(0, 1), num(0, full-0x10000)},
	})
}

func TestDivModByNought(t *testing.T) {
	for _, b := range []api.Nat{nil, api.Nat{}, num(0), num(0, 0, 0)} {
		for _, a := range []api.Nat{nil, num(5), num(1, 2, 3)} {
			if q, r, e := nat.DivMod(a, b); e != api.ErrZero || len(q) != 0 || len(r) != 0 {
				t.Errorf("DivMod(%v, %v): %v, %v, %v", a, b, q, r, e)
			}
		}
	}
}

// divides checks the words of 1.3: a is q b + r, and r is less than b.
func divides(t *testing.T, a, b api.Nat) {
	t.Helper()
	q, r, e := nat.DivMod(a, b)
	if e != api.OK {
		t.Fatalf("DivMod(%v, %v): %v", a, b, e)
	}
	check(t, "q is normal", q, nat.Norm(q))
	check(t, "r is normal", r, nat.Norm(r))
	if nat.Cmp(r, b) != -1 {
		t.Fatalf("DivMod(%v, %v) leaves %v", a, b, r)
	}
	check(t, "q b + r", nat.Add(nat.Mul(q, b), r), nat.Norm(a))
}

func TestDivModHolds(t *testing.T) {
	for _, list := range [][]api.Nat{samples.EdgeNats(), samples.Nats(150, 9)} {
		for _, a := range list {
			for _, b := range list {
				if nat.Bits(b) > 0 {
					divides(t, a, b)
					divides(t, nat.Mul(a, b), b)
					divides(t, nat.Mul(a, a), b)
				}
			}
		}
	}
}

func TestGcd(t *testing.T) {
	for _, c := range []struct{ a, b, want api.Nat }{
		{num(12), num(18), num(6)},
		{nil, num(5), num(5)},
		{nil, nil, nil},
		{num(0, 0), num(0), nil},
		{num(0, 0), num(5, 6, 0), num(5, 6)},
		{num(1), num(5, 6, 7), num(1)},
		{num(5, 6, 7), num(5, 6, 7, 0), num(5, 6, 7)},
		{two(200), two(130), num(0, 0, 0, 0, 4)},
		{two(200), ones(200), num(1)},
		{ones(120), ones(180), nat.Norm(ones(60))},
		{ones(720), ones(480), nat.Norm(ones(240))},
		{num(full, full), num(0, 0, 1), num(1)},
	} {
		check(t, "Gcd", nat.Gcd(c.a, c.b), c.want)
		check(t, "Gcd turned round", nat.Gcd(c.b, c.a), c.want)
	}
}

// euclid is the greatest common divisor by Euclid's steps, one by one.
func euclid(a, b api.Nat) api.Nat {
	for nat.Bits(b) > 0 {
		_, r, _ := nat.DivMod(a, b)
		a, b = b, r
	}
	return nat.Norm(a)
}

func TestGcdIsEuclids(t *testing.T) {
	for _, list := range [][]api.Nat{samples.EdgeNats(), samples.Nats(60, 20)} {
		for i, a := range list {
			for _, b := range list {
				check(t, "Gcd", nat.Gcd(a, b), euclid(a, b))
				c := list[(i+7)%len(list)]
				x, y := nat.Mul(a, c), nat.Mul(b, c)
				check(t, "Gcd of products", nat.Gcd(x, y), euclid(x, y))
			}
		}
	}
}

// TestGcdOfNeighbours: the neighbours in Fibonacci's row are those of whom
// Euclid's steps are most, each quotient being 1.
func TestGcdOfNeighbours(t *testing.T) {
	a, b := num(1), num(1)
	for range 900 {
		a, b = nat.Add(a, b), a
		check(t, "Gcd of neighbours", nat.Gcd(a, b), num(1))
		check(t, "Gcd of multiples", nat.Gcd(nat.Mul(a, b), nat.Mul(b, b)), b)
	}
}

func TestGcdOfLongNumbers(t *testing.T) {
	list := samples.Nats(6, 400)
	c := list[0]
	for _, a := range list[1:] {
		for _, b := range list[1:] {
			want := nat.Mul(c, nat.Gcd(a, b))
			check(t, "Gcd of long ones", nat.Gcd(nat.Mul(a, c), nat.Mul(b, c)), want)
		}
	}
}
