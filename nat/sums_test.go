package nat_test

import (
	"testing"

	"credence/api"
	"credence/nat"
	"credence/samples"
)

// 1.2: Cmp, Add, Sub, Mul.

func TestCmp(t *testing.T) {
	for _, c := range []struct {
		a, b api.Nat
		want int
	}{
		{nil, nil, 0},
		{nil, num(0, 0), 0},
		{nil, num(1), -1},
		{num(0, 0), num(1), -1},
		{num(2), num(2, 0), 0},
		{num(1, 1), num(2, 0, 0), 1},
		{num(1, 2), num(2, 1), 1},
		{num(2, 1), num(1, 2), -1},
		{num(1, 5), num(2, 5), -1},
		{num(full), num(0, 1), -1},
		{num(0, 0, 1), num(full, full), 1},
		{num(1 << 31), num(1<<31 - 1), 1},
	} {
		if got := nat.Cmp(c.a, c.b); got != c.want {
			t.Errorf("Cmp(%v, %v): %d", c.a, c.b, got)
		}
		if got := nat.Cmp(c.b, c.a); got != -c.want {
			t.Errorf("Cmp(%v, %v): %d", c.b, c.a, got)
		}
	}
}

func TestAdd(t *testing.T) {
	for _, c := range []struct{ a, b, want api.Nat }{
		{nil, nil, nil},
		{num(0, 0), num(0), nil},
		{num(5), nil, num(5)},
		{num(5, 0, 0), num(7, 0), num(12)},
		{num(full), num(1), num(0, 1)},
		{num(full, full), num(1), num(0, 0, 1)},
		{num(full, full), num(full, full), num(full-1, full, 1)},
		{num(full, 1), num(full, full), num(full-1, 1, 1)},
		{num(0, 1), num(full), num(full, 1)},
	} {
		check(t, "Add", nat.Add(c.a, c.b), c.want)
		check(t, "Add turned round", nat.Add(c.b, c.a), c.want)
	}
}

func TestSub(t *testing.T) {
	for _, c := range []struct {
		a, b, want api.Nat
		ok         bool
	}{
		{num(0, 0, 1), num(1), num(full, full), true},
		{num(1), num(2), nil, false},
		{nil, num(1), nil, false},
		{num(full), num(0, 1), nil, false},
		{nil, nil, nil, true},
		{num(0, 0), num(0), nil, true},
		{num(5, 7), num(5, 7, 0), nil, true},
		{num(5, 7), num(6, 6), num(full), true},
		{num(5, 7), nil, num(5, 7), true},
		{num(0, 1), num(1), num(full), true},
		{num(5, 7, 0), num(5), num(0, 7), true},
	} {
		got, ok := nat.Sub(c.a, c.b)
		if ok != c.ok {
			t.Errorf("Sub(%v, %v): %v", c.a, c.b, ok)
		}
		check(t, "Sub", got, c.want)
	}
}

func TestMul(t *testing.T) {
	for _, c := range []struct{ a, b, want api.Nat }{
		{num(full), num(full), num(1, full-1)},
		{nil, num(5), nil},
		{num(0, 0), num(5, 6), nil},
		{num(1), num(5, 6, 0), num(5, 6)},
		{num(0, 1), num(0, 0, 1), num(0, 0, 0, 1)},
		{num(full, full), num(full, full), num(1, 0, full-1, full)},
		{num(full, full, full), num(full), num(1, full, full, full-1)},
		{num(1 << 31), num(2), num(0, 1)},
		{num(3, 0, 5), num(7, 11), num(21, 33, 35, 55)},
	} {
		check(t, "Mul", nat.Mul(c.a, c.b), c.want)
		check(t, "Mul turned round", nat.Mul(c.b, c.a), c.want)
	}
}

// TestSumsOnPaper holds all four against digits that are reckoned on paper.
func TestSumsOnPaper(t *testing.T) {
	list := append(samples.Nats(40, 7), num(0), num(1, 0), num(full, full, full, 0), num(0, 0, 0, 1))
	for _, a := range list {
		for _, b := range list {
			x, y := slow(a), slow(b)
			if got, want := slow(nat.Add(a, b)), slowAdd(x, y); got != want {
				t.Fatalf("Add(%s, %s): %s, want %s", x, y, got, want)
			}
			if got, want := slow(nat.Mul(a, b)), slowMul(x, y); got != want {
				t.Fatalf("Mul(%s, %s): %s, want %s", x, y, got, want)
			}
			order := slowCmp(x, y)
			if got := nat.Cmp(a, b); got != order {
				t.Fatalf("Cmp(%s, %s): %d", x, y, got)
			}
			d, ok := nat.Sub(a, b)
			if ok != (order >= 0) {
				t.Fatalf("Sub(%s, %s): %v", x, y, ok)
			}
			if ok && slowAdd(slow(d), y) != x {
				t.Fatalf("Sub(%s, %s): %s", x, y, slow(d))
			}
		}
	}
}

// TestSumsAtEdges: what is added can be taken away again, and nothing is ever
// answered with noughts ahead.
func TestSumsAtEdges(t *testing.T) {
	for _, a := range samples.EdgeNats() {
		for _, b := range samples.EdgeNats() {
			sum := nat.Add(a, b)
			check(t, "Add is normal", sum, nat.Norm(sum))
			d, ok := nat.Sub(sum, b)
			if !ok {
				t.Fatalf("Sub(%v, %v): false", sum, b)
			}
			check(t, "Sub of Add", d, nat.Norm(a))
			product := nat.Mul(a, b)
			check(t, "Mul is normal", product, nat.Norm(product))
		}
	}
}
