package nat_test

import (
	"slices"
	"testing"

	"credence/api"
	"credence/nat"
)

// R3, R5: what is handed in is not changed, what is answered is new memory.

// spare is what stands in the spare room of what is handed in.
const spare = 0xdeadbeef

// handed is a number with some spare room behind it.
func handed(a api.Nat) api.Nat {
	room := make(api.Nat, len(a), len(a)+8)
	copy(room, a)
	for i := len(a); i < cap(room); i++ {
		room[:cap(room)][i] = spare
	}
	return room
}

// scrawl writes over a list and its spare room.
func scrawl(a api.Nat) {
	for i := range a[:cap(a)] {
		a[:cap(a)][i] = 0x55aa55aa
	}
}

// untouched checks that what was handed in is as it was, its spare room too.
func untouched(t *testing.T, what string, now, before api.Nat) {
	t.Helper()
	if !slices.Equal(now, before) {
		t.Fatalf("%s: %v was changed into %v", what, before, now)
	}
	for _, x := range now[:cap(now)][len(now):] {
		if x != spare {
			t.Fatalf("%s: the spare room of %v was written", what, before)
		}
	}
}

// calls are all calls that are handed numbers and answer some.
func calls() map[string]func(a, b api.Nat) []api.Nat {
	return map[string]func(a, b api.Nat) []api.Nat{
		"Norm": func(a, b api.Nat) []api.Nat { return []api.Nat{nat.Norm(a), nat.Norm(b)} },
		"Add":  func(a, b api.Nat) []api.Nat { return []api.Nat{nat.Add(a, b)} },
		"Sub": func(a, b api.Nat) []api.Nat {
			d, _ := nat.Sub(a, b)
			return []api.Nat{d}
		},
		"Mul": func(a, b api.Nat) []api.Nat { return []api.Nat{nat.Mul(a, b)} },
		"DivMod": func(a, b api.Nat) []api.Nat {
			q, r, _ := nat.DivMod(a, b)
			return []api.Nat{q, r}
		},
		"Gcd": func(a, b api.Nat) []api.Nat { return []api.Nat{nat.Gcd(a, b)} },
		"Pow": func(a, b api.Nat) []api.Nat {
			x, _ := nat.Pow(a, 1)
			y, _ := nat.Pow(b, 2)
			return []api.Nat{x, y}
		},
		"Shift": func(a, b api.Nat) []api.Nat {
			list := []api.Nat{}
			for _, n := range []int{0, 1, 32, -1, -32} {
				x, _ := nat.Shift(a, n)
				y, _ := nat.Shift(b, n)
				list = append(list, x, y)
			}
			return list
		},
		"Root": func(a, b api.Nat) []api.Nat { return []api.Nat{nat.Root(a), nat.Root(b)} },
		"numbers that are only told": func(a, b api.Nat) []api.Nat {
			nat.Uint(a)
			nat.Bits(a)
			nat.Cmp(a, b)
			nat.Text(a)
			return nil
		},
	}
}

// copies are lists, each in memory of its own.
func copies(list []api.Nat) []api.Nat {
	out := make([]api.Nat, len(list))
	for i, a := range list {
		out[i] = append(api.Nat(nil), a...)
	}
	return out
}

// alone checks that a list of answers shares nothing: neither with what was
// handed in, nor with one another, nor with later answers.
func alone(t *testing.T, what string, call func(a, b api.Nat) []api.Nat, a, b api.Nat) {
	t.Helper()
	x, y := handed(a), handed(b)
	got := call(x, y)
	want := copies(got)
	untouched(t, what, x, a)
	untouched(t, what, y, b)
	for i := range got {
		scrawl(got[i])
		for j := i + 1; j < len(got); j++ {
			if !slices.Equal(got[j], want[j]) {
				t.Fatalf("%s of %v, %v: two answers share memory", what, a, b)
			}
		}
		untouched(t, what, x, a)
		untouched(t, what, y, b)
	}
	again := call(x, y)
	scrawl(x)
	scrawl(y)
	for i := range again {
		if !slices.Equal(again[i], want[i]) {
			t.Fatalf("%s of %v, %v: first %v, then %v", what, a, b, want[i], again[i])
		}
	}
}

func TestMemory(t *testing.T) {
	list := append(some(12, 6), nil, num(0), num(1), num(5, 0), num(7, 8, 0), num(full, full), num(0, 0, 1))
	for what, call := range calls() {
		for _, a := range list {
			for _, b := range list {
				alone(t, what, call, a, b)
			}
		}
	}
}

// TestMemoryOfOneNumberTwice: both arguments may be the same list.
func TestMemoryOfOneNumberTwice(t *testing.T) {
	for what, call := range calls() {
		for _, a := range append(some(12, 6), nil, num(5, 0), num(0, 0, 1)) {
			x := handed(a)
			got := call(x, x)
			untouched(t, what, x, a)
			want := call(handed(a), handed(a))
			for i := range want {
				check(t, what, got[i], want[i])
			}
			for i := range got {
				scrawl(got[i])
			}
			untouched(t, what, x, a)
		}
	}
}

// TestMemoryOfMade: numbers that are made out of none are new each time.
func TestMemoryOfMade(t *testing.T) {
	for range 2 {
		a := nat.Of(1<<32 + 5)
		check(t, "Of", a, num(5, 1))
		scrawl(a)
		b, _ := nat.Parse("18446744073709551616")
		check(t, "Parse", b, num(0, 0, 1))
		scrawl(b)
		c, _ := nat.Pow(nil, 0)
		check(t, "Pow", c, num(1))
		scrawl(c)
	}
}

// TestNilAndEmpty: R4.
func TestNilAndEmpty(t *testing.T) {
	for what, call := range calls() {
		for _, b := range []api.Nat{nil, num(), num(9), num(1, 2, 3)} {
			x, y := call(nil, b), call(num(), b)
			for i := range x {
				check(t, what, x[i], y[i])
			}
			x, y = call(b, nil), call(b, num())
			for i := range x {
				check(t, what, x[i], y[i])
			}
		}
	}
}
