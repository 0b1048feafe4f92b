package whole_test

import (
	"testing"

	"credence/api"
	"credence/whole"
)

// 2.2: Add, Sub, Mul.

func TestSmallSums(t *testing.T) {
	for a := -20; a <= 20; a++ {
		for b := -20; b <= 20; b++ {
			x, y := small(a), small(b)
			check(t, "Add", whole.Add(x, y), small(a+b))
			check(t, "Sub", whole.Sub(x, y), small(a-b))
			check(t, "Mul", whole.Mul(x, y), small(a*b))
		}
	}
}

func TestAdd(t *testing.T) {
	for _, c := range []struct{ a, b, want api.Int }{
		{plus(5), minus(7), minus(2)},
		{minus(7), plus(5), minus(2)},
		{plus(7, 0), minus(5, 0), plus(2)},
		{plus(full, full), plus(1), plus(0, 0, 1)},
		{minus(full, full), minus(1), minus(0, 0, 1)},
		{plus(0, 0, 1), minus(1), plus(full, full)},
		{minus(0, 0, 1), plus(1), minus(full, full)},
		{plus(1), minus(0, 0, 1), minus(full, full)},
		{plus(3, 4), minus(3, 4, 0), plus()},
		{minus(3, 4), plus(3, 4), plus()},
		{minus(3, 9), plus(0, 9), minus(3)},
	} {
		check(t, "Add", whole.Add(c.a, c.b), c.want)
		check(t, "Sub", whole.Sub(c.a, whole.Neg(c.b)), c.want)
	}
}

func TestSub(t *testing.T) {
	for _, c := range []struct{ a, b, want api.Int }{
		{minus(5), minus(7), plus(2)},
		{minus(7), minus(5), minus(2)},
		{minus(0, 1), plus(1), minus(1, 1)},
		{plus(0, 1), minus(1), plus(1, 1)},
		{plus(1), plus(0, 1), minus(full)},
		{minus(8, 8), minus(8, 8, 0), plus()},
	} {
		check(t, "Sub", whole.Sub(c.a, c.b), c.want)
	}
}

func TestMul(t *testing.T) {
	for _, c := range []struct{ a, b, want api.Int }{
		{minus(3), plus(4), minus(12)},
		{minus(3), minus(4), plus(12)},
		{minus(3), plus(), plus()},
		{plus(full), minus(full), minus(1, full-1)},
		{minus(0, 5, 0), minus(0, 7), plus(0, 0, 35)},
	} {
		check(t, "Mul", whole.Mul(c.a, c.b), c.want)
		check(t, "Mul turned round", whole.Mul(c.b, c.a), c.want)
	}
}

func TestSumsWithNoughts(t *testing.T) {
	for _, z := range zeros() {
		for _, a := range append(few(), zeros()...) {
			check(t, "a + 0", whole.Add(a, z), whole.Norm(a))
			check(t, "0 + a", whole.Add(z, a), whole.Norm(a))
			check(t, "a - 0", whole.Sub(a, z), whole.Norm(a))
			check(t, "0 - a", whole.Sub(z, a), whole.Neg(a))
			check(t, "a 0", whole.Mul(a, z), plus())
			check(t, "0 a", whole.Mul(z, a), plus())
		}
	}
}
