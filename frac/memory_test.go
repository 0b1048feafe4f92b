package frac_test

import (
	"slices"
	"testing"

	"credence/api"
	"credence/frac"
	"credence/samples"
)

// R3, R4, R5: what is handed in is not changed, what is answered is new memory.

// lists are the limbs of some numbers.
type lists = [][]uint32

// one and rated are the fractions of an answer.
func one(a api.Rat) []api.Rat                { return []api.Rat{a} }
func rated(a api.Rat, _ api.Errno) []api.Rat { return []api.Rat{a} }

// ints are whole numbers as fractions, so that all answers are alike.
func ints(numbers ...api.Int) []api.Rat {
	var list []api.Rat
	for _, n := range numbers {
		list = append(list, api.Rat{Num: n})
	}
	return list
}

// calls are all calls of two fractions, and the fractions that they answer.
func calls() map[string]func(a, b api.Rat) []api.Rat {
	return map[string]func(a, b api.Rat) []api.Rat{
		"New":      func(a, b api.Rat) []api.Rat { return rated(frac.New(a.Num, b.Num)) },
		"Norm":     func(a, b api.Rat) []api.Rat { return append(rated(frac.Norm(a)), rated(frac.Norm(b))...) },
		"Neg":      func(a, b api.Rat) []api.Rat { return append(one(frac.Neg(a)), frac.Neg(b)) },
		"Add":      func(a, b api.Rat) []api.Rat { return one(frac.Add(a, b)) },
		"Sub":      func(a, b api.Rat) []api.Rat { return one(frac.Sub(a, b)) },
		"Mul":      func(a, b api.Rat) []api.Rat { return one(frac.Mul(a, b)) },
		"Div":      func(a, b api.Rat) []api.Rat { return rated(frac.Div(a, b)) },
		"Sum":      func(a, b api.Rat) []api.Rat { return append(one(frac.Sum(a, b, a)), frac.Sum(b), frac.Sum()) },
		"Floor":    func(a, b api.Rat) []api.Rat { return ints(frac.Floor(a), frac.Floor(b)) },
		"Terms":    func(a, b api.Rat) []api.Rat { return ints(slices.Concat(termsOf(a), termsOf(b))...) },
		"Simplest": func(a, b api.Rat) []api.Rat { return append(rated(frac.Simplest(a, b)), rated(frac.Simplest(b, a))...) },
		"Simplest of one": func(a, b api.Rat) []api.Rat {
			return append(rated(frac.Simplest(a, a)), rated(frac.Simplest(b, b))...)
		},
		"what is only told": func(a, b api.Rat) []api.Rat {
			frac.Cmp(a, b)
			frac.Sign(a)
			frac.Text(a)
			return nil
		},
		"fractions out of none": func(api.Rat, api.Rat) []api.Rat {
			return slices.Concat(rated(frac.Parse("-18446744073709551616/3")), rated(frac.Parse("7")), rated(frac.Of(-6, 4)), rated(frac.Of(0, 1)))
		},
	}
}

// ofLimbs is a call of two fractions as one of their limbs, their sides given.
func ofLimbs(call func(a, b api.Rat) []api.Rat, a, b bool) samples.Call[uint32] {
	return func(in lists) lists {
		var out lists
		for _, x := range call(long(a, in[0], in[1]), long(b, in[2], in[3])) {
			out = append(out, x.Num.Mag, x.Den)
		}
		return out
	}
}

// marks are limbs that no number of these tests has.
var marks = samples.Marks[uint32]{Spare: 0xdeadbeef, Ink: 0x55aa55aa}

func TestMemory(t *testing.T) {
	for what, call := range calls() {
		for _, a := range few() {
			for _, b := range few() {
				in := lists{a.Num.Mag, a.Den, b.Num.Mag, b.Den}
				if wrong := samples.Alone(ofLimbs(call, a.Num.Neg, b.Num.Neg), in, marks); wrong != "" {
					t.Fatalf("%s of %v and %v: %s", what, a, b, wrong)
				}
			}
		}
	}
}

// TestMemoryOfOneListTwice: all arguments may be the same list.
func TestMemoryOfOneListTwice(t *testing.T) {
	for what, call := range calls() {
		for _, a := range few() {
			same := func(in lists) lists {
				return ofLimbs(call, a.Num.Neg, a.Num.Neg)(lists{in[0], in[0], in[0], in[0]})
			}
			if wrong := samples.Alone(same, lists{a.Num.Mag}, marks); wrong != "" {
				t.Fatalf("%s of %v, again and again: %s", what, a, wrong)
			}
		}
	}
}

// TestMemoryOfTheListOfSum: the list itself is not changed, nor its spare room.
func TestMemoryOfTheListOfSum(t *testing.T) {
	list := few()
	room := append(slices.Clone(list), raw(77, 78), raw(79, 80))
	frac.Sum(room[:len(list)]...)
	for i, want := range append(list, raw(77, 78), raw(79, 80)) {
		check(t, "an element", room[i], want)
	}
}

// TestNotNormal: noughts ahead, a negative 0, common divisors, nil or no limbs
// say nothing; and 0 below the stroke says 1.
func TestNotNormal(t *testing.T) {
	for what, call := range calls() {
		if what == "New" || what == "Norm" {
			continue
		}
		for _, a := range append(few(), zeros()...) {
			for _, b := range few() {
				want := call(lowered(a), lowered(b))
				wide := long(a.Num.Neg, slices.Concat(a.Num.Mag, api.Nat{0, 0}), slices.Concat(a.Den, api.Nat{0}))
				got := call(wide, b)
				if len(got) != len(want) {
					t.Fatalf("%s of %v and %v: %v, want %v", what, a, b, got, want)
				}
				for i := range want {
					check(t, what, got[i], want[i])
				}
			}
		}
	}
}
