package nat_test

import (
	"testing"

	"credence/api"
	"credence/nat"
	"credence/samples"
)

// R3, R4, R5: what is handed in is not changed, what is answered is new memory.

// lists are the limbs of some numbers.
type lists = [][]uint32

// calls are all calls that are handed numbers, of two numbers.
func calls() map[string]samples.Call[uint32] {
	return map[string]samples.Call[uint32]{
		"Norm": func(in lists) lists { return lists{nat.Norm(in[0]), nat.Norm(in[1])} },
		"Add":  func(in lists) lists { return lists{nat.Add(in[0], in[1])} },
		"Sub": func(in lists) lists {
			d, _ := nat.Sub(in[0], in[1])
			return lists{d}
		},
		"Mul": func(in lists) lists { return lists{nat.Mul(in[0], in[1])} },
		"DivMod": func(in lists) lists {
			q, r, _ := nat.DivMod(in[0], in[1])
			return lists{q, r}
		},
		"Gcd": func(in lists) lists { return lists{nat.Gcd(in[0], in[1])} },
		"Pow": func(in lists) lists {
			x, _ := nat.Pow(in[0], 1)
			y, _ := nat.Pow(in[1], 2)
			z, _ := nat.Pow(in[1], 0)
			return lists{x, y, z}
		},
		"Shift": func(in lists) lists {
			out := lists{}
			for _, n := range []int{0, 1, 32, -1, -32} {
				x, _ := nat.Shift(in[0], n)
				y, _ := nat.Shift(in[1], n)
				out = append(out, x, y)
			}
			return out
		},
		"Root": func(in lists) lists { return lists{nat.Root(in[0]), nat.Root(in[1])} },
		"numbers that are only told": func(in lists) lists {
			nat.Uint(in[0])
			nat.Bits(in[0])
			nat.Cmp(in[0], in[1])
			nat.Text(in[0])
			return nil
		},
		"numbers out of none": func(lists) lists {
			x, _ := nat.Parse("18446744073709551616")
			return lists{nat.Of(1<<32 + 5), x}
		},
	}
}

// marks are limbs that no number of these tests has.
var marks = samples.Marks[uint32]{Spare: 0xdeadbeef, Ink: 0x55aa55aa}

func TestMemory(t *testing.T) {
	list := append(samples.Nats(12, 6), nil, num(0), num(1), num(5, 0), num(7, 8, 0), num(full, full), num(0, 0, 1))
	for what, call := range calls() {
		for _, a := range list {
			for _, b := range list {
				if wrong := samples.Alone(call, lists{a, b}, marks); wrong != "" {
					t.Fatalf("%s of %v and %v: %s", what, a, b, wrong)
				}
			}
		}
	}
}

// TestMemoryOfOneNumberTwice: both arguments may be the same list.
func TestMemoryOfOneNumberTwice(t *testing.T) {
	for what, call := range calls() {
		twice := func(in lists) lists { return call(lists{in[0], in[0]}) }
		for _, a := range append(samples.Nats(12, 6), nil, num(5, 0), num(0, 0, 1)) {
			if wrong := samples.Alone(twice, lists{a}, marks); wrong != "" {
				t.Fatalf("%s of %v, twice: %s", what, a, wrong)
			}
			got, want := twice(lists{a}), call(lists{a, append(api.Nat{}, a...)})
			for i := range want {
				check(t, what, got[i], want[i])
			}
		}
	}
}

// TestNilAndEmpty: R4.
func TestNilAndEmpty(t *testing.T) {
	for what, call := range calls() {
		for _, b := range []api.Nat{nil, api.Nat{}, num(9), num(1, 2, 3)} {
			x, y := call(lists{nil, b}), call(lists{api.Nat{}, b})
			for i := range x {
				check(t, what, x[i], y[i])
			}
			x, y = call(lists{b, nil}), call(lists{b, api.Nat{}})
			for i := range x {
				check(t, what, x[i], y[i])
			}
		}
	}
}
