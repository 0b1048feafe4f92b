package whole_test

import (
	"testing"

	"credence/api"
	"credence/nat"
	"credence/whole"
)

// 2.3: Floor, Quo.

// divider is Floor or Quo.
type divider func(a, b api.Int) (api.Int, api.Int, api.Errno)

// checkDivision holds a quotient and what is left against what they should be.
func checkDivision(t *testing.T, what string, divide divider, a, b, quo, left api.Int) {
	t.Helper()
	q, r, e := divide(a, b)
	if e != api.OK {
		t.Fatalf("%s(%v, %v): %v", what, a, b, e)
	}
	check(t, what+": the quotient", q, quo)
	check(t, what+": what is left", r, left)
}

// floorOf is the quotient rounded down, found by going on from 0 step by step.
func floorOf(a, b int) int {
	if b < 0 {
		a, b = -a, -b
	}
	q := 0
	for q*b > a {
		q--
	}
	for (q+1)*b <= a {
		q++
	}
	return q
}

func TestSmallDivisions(t *testing.T) {
	for a := -40; a <= 40; a++ {
		for b := -12; b <= 12; b++ {
			if b == 0 {
				continue
			}
			q := floorOf(a, b)
			checkDivision(t, "Floor", whole.Floor, small(a), small(b), small(q), small(a-q*b))
			if q < 0 && q*b != a {
				q++
			}
			checkDivision(t, "Quo", whole.Quo, small(a), small(b), small(q), small(a-q*b))
		}
	}
}

func TestFloor(t *testing.T) {
	for _, c := range []struct{ a, b, q, r api.Int }{
		{plus(7), plus(2), plus(3), plus(1)},
		{minus(7), plus(2), minus(4), plus(1)},
		{plus(7), minus(2), minus(4), minus(1)},
		{minus(7), minus(2), plus(3), minus(1)},
		{minus(1), plus(0, 0, 1), minus(1), plus(full, full)},
		{plus(1), minus(0, 0, 1), minus(1), minus(full, full)},
		{minus(1), minus(0, 0, 1), plus(), minus(1)},
		{minus(full, full, full), plus(0, 0, 1), minus(0, 1), plus(1)},
		{minus(0, 6, 0), plus(0, 3, 0), minus(2), plus()},
		{plus(0, 6), minus(3), minus(0, 2), plus()},
		{minus(0, 0), minus(3, 0), plus(), plus()},
	} {
		checkDivision(t, "Floor", whole.Floor, c.a, c.b, c.q, c.r)
	}
}

func TestQuo(t *testing.T) {
	for _, c := range []struct{ a, b, q, r api.Int }{
		{plus(7), plus(2), plus(3), plus(1)},
		{minus(7), plus(2), minus(3), minus(1)},
		{plus(7), minus(2), minus(3), plus(1)},
		{minus(7), minus(2), plus(3), minus(1)},
		{minus(1), plus(0, 0, 1), plus(), minus(1)},
		{plus(1, 0), minus(0, 0, 1), plus(), plus(1)},
		{minus(full, full, full), plus(0, 0, 1), minus(full), minus(full, full)},
		{minus(0, 6, 0), plus(0, 3, 0), minus(2), plus()},
		{minus(0, 0), minus(3, 0), plus(), plus()},
	} {
		checkDivision(t, "Quo", whole.Quo, c.a, c.b, c.q, c.r)
	}
}

func TestDivisionByNought(t *testing.T) {
	for what, divide := range map[string]divider{"Floor": whole.Floor, "Quo": whole.Quo} {
		for _, b := range zeros() {
			for _, a := range append(zeros(), plus(1), minus(1, 2, 3)) {
				q, r, e := divide(a, b)
				if e != api.ErrZero {
					t.Errorf("%s(%v, %v): %v", what, a, b, e)
				}
				check(t, what, q, plus())
				check(t, what, r, plus())
			}
		}
	}
}

// divides checks the words of 2.3 and 2.6: a is q b and what is left, which is
// normal, less in size than b, and 0 or on the side that is named.
func divides(t *testing.T, divide divider, a, b api.Int, side int) {
	t.Helper()
	q, r, e := divide(a, b)
	if e != api.OK {
		t.Fatalf("of %v, %v: %v", a, b, e)
	}
	check(t, "q is normal", q, whole.Norm(q))
	check(t, "r is normal", r, whole.Norm(r))
	check(t, "q b + r", whole.Add(whole.Mul(q, b), r), whole.Norm(a))
	if nat.Cmp(r.Mag, b.Mag) != -1 {
		t.Fatalf("of %v, %v the quotient leaves %v", a, b, r)
	}
	if s := whole.Sign(r); s != 0 && s != side {
		t.Fatalf("of %v, %v what is left is %v", a, b, r)
	}
}

func TestDivisionHolds(t *testing.T) {
	for _, a := range many() {
		for _, b := range many() {
			if whole.Sign(b) == 0 {
				continue
			}
			divides(t, whole.Floor, a, b, whole.Sign(b))
			divides(t, whole.Quo, a, b, whole.Sign(a))
		}
	}
}

// TestFloorAndQuoAgree: 2.6.
func TestFloorAndQuoAgree(t *testing.T) {
	for _, a := range many() {
		for _, b := range many() {
			q, r, e := whole.Quo(a, b)
			if e == api.OK && (whole.Sign(r) == 0 || whole.Sign(a) == whole.Sign(b)) {
				checkDivision(t, "Floor", whole.Floor, a, b, q, r)
			}
		}
	}
}
