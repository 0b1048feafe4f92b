package whole_test

import (
	"slices"
	"testing"

	"credence/api"
	"credence/samples"
	"credence/whole"
)

// R3, R4, R5: what is handed in is not changed, what is answered is new memory.

// lists are the limbs of some numbers.
type lists = [][]uint32

// calls are all calls of two numbers, and the numbers that they answer.
func calls() map[string]func(a, b api.Int) []api.Int {
	return map[string]func(a, b api.Int) []api.Int{
		"Norm": func(a, b api.Int) []api.Int { return []api.Int{whole.Norm(a), whole.Norm(b)} },
		"Neg":  func(a, b api.Int) []api.Int { return []api.Int{whole.Neg(a), whole.Neg(b)} },
		"Add":  func(a, b api.Int) []api.Int { return []api.Int{whole.Add(a, b)} },
		"Sub":  func(a, b api.Int) []api.Int { return []api.Int{whole.Sub(a, b)} },
		"Mul":  func(a, b api.Int) []api.Int { return []api.Int{whole.Mul(a, b)} },
		"Floor": func(a, b api.Int) []api.Int {
			q, r, _ := whole.Floor(a, b)
			return []api.Int{q, r}
		},
		"Quo": func(a, b api.Int) []api.Int {
			q, r, _ := whole.Quo(a, b)
			return []api.Int{q, r}
		},
		"Bezout": func(a, b api.Int) []api.Int {
			g, x, y := whole.Bezout(a, b)
			return []api.Int{{Mag: g}, x, y}
		},
		"numbers that are only told": func(a, b api.Int) []api.Int {
			whole.Int(a)
			whole.Cmp(a, b)
			whole.Sign(a)
			whole.Text(a)
			return nil
		},
		"numbers out of none": func(api.Int, api.Int) []api.Int {
			x, _ := whole.Parse("-18446744073709551616")
			return []api.Int{whole.Of(-1<<32 - 5), whole.Of(1), x}
		},
	}
}

// ofLimbs is a call of two numbers as one of their limbs, their sides given.
func ofLimbs(call func(a, b api.Int) []api.Int, a, b bool) samples.Call[uint32] {
	return func(in lists) lists {
		var out lists
		for _, x := range call(api.Int{Neg: a, Mag: in[0]}, api.Int{Neg: b, Mag: in[1]}) {
			out = append(out, x.Mag)
		}
		return out
	}
}

// marks are limbs that no number of these tests has.
var marks = samples.Marks[uint32]{Spare: 0xdeadbeef, Ink: 0x55aa55aa}

func TestMemory(t *testing.T) {
	for what, call := range calls() {
		for _, a := range few() {
			for _, b := range few() {
				if wrong := samples.Alone(ofLimbs(call, a.Neg, b.Neg), lists{a.Mag, b.Mag}, marks); wrong != "" {
					t.Fatalf("%s of %v and %v: %s", what, a, b, wrong)
				}
			}
		}
	}
}

// TestMemoryOfOneNumberTwice: both arguments may be the same list.
func TestMemoryOfOneNumberTwice(t *testing.T) {
	for what, call := range calls() {
		for _, a := range few() {
			twice := func(in lists) lists { return ofLimbs(call, a.Neg, a.Neg)(lists{in[0], in[0]}) }
			if wrong := samples.Alone(twice, lists{a.Mag}, marks); wrong != "" {
				t.Fatalf("%s of %v, twice: %s", what, a, wrong)
			}
			got, want := call(a, a), call(a, api.Int{Neg: a.Neg, Mag: slices.Clone(a.Mag)})
			for i := range want {
				check(t, what, got[i], want[i])
			}
		}
	}
}

// TestNotNormal: noughts ahead, a negative 0, nil or no limbs say nothing.
func TestNotNormal(t *testing.T) {
	for what, call := range calls() {
		for _, a := range append(few(), zeros()...) {
			for _, b := range append(few(), zeros()...) {
				want := call(whole.Norm(a), whole.Norm(b))
				got := call(api.Int{Neg: a.Neg, Mag: slices.Concat(a.Mag, api.Nat{0, 0})}, b)
				for i := range want {
					check(t, what, got[i], want[i])
					check(t, what+" is normal", got[i], whole.Norm(got[i]))
				}
			}
		}
	}
}
