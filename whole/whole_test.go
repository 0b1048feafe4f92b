package whole_test

import (
	"math"
	"testing"

	"credence/api"
	"credence/nat"
	"credence/whole"
)

// 2.1: Norm, Of, Int, Cmp, Sign, Neg.

func TestNorm(t *testing.T) {
	for _, c := range []struct{ a, want api.Int }{
		{minus(0, 0), plus()},
		{minus(5, 0), minus(5)},
		{plus(5, 0, 0), plus(5)},
		{plus(0, 5), plus(0, 5)},
		{minus(0, 5, 0), minus(0, 5)},
		{minus(full, full), minus(full, full)},
	} {
		check(t, "Norm", whole.Norm(c.a), c.want)
	}
	for _, a := range zeros() {
		check(t, "Norm of 0", whole.Norm(a), plus())
	}
}

func TestOf(t *testing.T) {
	for n, want := range map[int]api.Int{
		0:                 plus(),
		1:                 plus(1),
		-1:                minus(1),
		full:              plus(full),
		-full:             minus(full),
		1 << 32:           plus(0, 1),
		-1 << 32:          minus(0, 1),
		math.MaxInt:       plus(full, 1<<31-1),
		-math.MaxInt:      minus(full, 1<<31-1),
		math.MinInt:       minus(0, 1<<31),
		0x123456789abcdef: plus(0x89abcdef, 0x1234567),
	} {
		a := whole.Of(n)
		check(t, "Of", a, want)
		if k, ok := whole.Int(a); k != n || !ok {
			t.Errorf("Int of %d: %d, %t", n, k, ok)
		}
	}
}

func TestInt(t *testing.T) {
	for _, c := range []struct {
		a    api.Int
		want int
	}{
		{plus(7, 0, 0, 0), 7},
		{minus(7, 0, 0, 0), -7},
		{minus(0, 1<<31, 0), math.MinInt},
		{plus(full, 1<<31-1, 0), math.MaxInt},
	} {
		if n, ok := whole.Int(c.a); n != c.want || !ok {
			t.Errorf("Int of %v: %d, %t", c.a, n, ok)
		}
	}
	for _, a := range zeros() {
		if n, ok := whole.Int(a); n != 0 || !ok {
			t.Errorf("Int of %v: %d, %t", a, n, ok)
		}
	}
	for _, a := range []api.Int{
		plus(0, 1<<31), minus(1, 1<<31), plus(full, full), minus(full, full),
		plus(0, 0, 1), minus(0, 0, 1), plus(5, 0, 0, 1), minus(5, 0, 0, 1),
	} {
		if n, ok := whole.Int(a); n != 0 || ok {
			t.Errorf("Int of %v: %d, %t", a, n, ok)
		}
	}
}

// rising are numbers, each greater than the one ahead of it.
func rising() []api.Int {
	return []api.Int{
		minus(0, 0, 1), minus(full, full), minus(0, 1), minus(full), minus(2, 0), minus(1),
		plus(), plus(1, 0), plus(2), plus(full), plus(0, 1), plus(full, full, 0), plus(0, 0, 1),
	}
}

func TestCmp(t *testing.T) {
	for i, a := range rising() {
		for j, b := range rising() {
			want := 0
			if i < j {
				want = -1
			} else if i > j {
				want = 1
			}
			if got := whole.Cmp(a, b); got != want {
				t.Errorf("Cmp(%v, %v): %d", a, b, got)
			}
		}
	}
}

func TestCmpAndSignOfNoughts(t *testing.T) {
	for _, a := range zeros() {
		if got := whole.Sign(a); got != 0 {
			t.Errorf("Sign of %v: %d", a, got)
		}
		for _, b := range zeros() {
			if got := whole.Cmp(a, b); got != 0 {
				t.Errorf("Cmp(%v, %v): %d", a, b, got)
			}
		}
		for _, b := range rising() {
			if got, want := whole.Cmp(a, b), -whole.Sign(b); got != want {
				t.Errorf("Cmp(%v, %v): %d", a, b, got)
			}
			if got, want := whole.Cmp(b, a), whole.Sign(b); got != want {
				t.Errorf("Cmp(%v, %v): %d", b, a, got)
			}
		}
	}
}

func TestSign(t *testing.T) {
	for _, c := range []struct {
		a    api.Int
		want int
	}{
		{plus(1), 1}, {minus(1), -1}, {plus(0, 0, 1), 1}, {minus(0, 0, 1), -1}, {plus(9, 0), 1}, {minus(9, 0), -1}, {plus(), 0},
	} {
		if got := whole.Sign(c.a); got != c.want {
			t.Errorf("Sign of %v: %d", c.a, got)
		}
	}
}

func TestNeg(t *testing.T) {
	for _, c := range []struct{ a, want api.Int }{
		{plus(5), minus(5)}, {minus(5), plus(5)}, {plus(5, 0), minus(5)}, {minus(0, 7, 0), plus(0, 7)},
	} {
		check(t, "Neg", whole.Neg(c.a), c.want)
	}
	for _, a := range zeros() {
		check(t, "Neg of 0", whole.Neg(a), plus())
	}
}

// TestOrder: the numbers' order is that of what lies between them.
func TestOrder(t *testing.T) {
	for _, a := range few() {
		for _, b := range few() {
			if whole.Cmp(a, b) != whole.Sign(whole.Sub(a, b)) || whole.Cmp(a, b) != -whole.Cmp(b, a) {
				t.Errorf("Cmp(%v, %v): %d", a, b, whole.Cmp(a, b))
			}
			if whole.Cmp(a, b) != whole.Cmp(whole.Neg(b), whole.Neg(a)) {
				t.Errorf("Cmp(%v, %v) is another one of the opposites", a, b)
			}
		}
		if whole.Sign(a) != 0 && nat.Cmp(whole.Neg(a).Mag, a.Mag) != 0 {
			t.Errorf("Neg of %v is %v", a, whole.Neg(a))
		}
	}
}
