package near_test

import (
	"math"
	"slices"
	"testing"

	"credence/api"
	"credence/frac"
	"credence/near"
	"credence/samples"
)

// R3, R4, R5: what is handed in is not changed, what is answered is new memory.

// lists are the limbs of some numbers.
type lists = [][]uint32

// halves are the bits of a float as limbs, so that all answers are alike.
func halves(f float64) []uint32 {
	bits := math.Float64bits(f)
	return []uint32{uint32(bits), uint32(bits >> 32)}
}

// calls are all calls of a fraction, and what they answer.
func calls() map[string]func(a api.Rat) lists {
	return map[string]func(a api.Rat) lists{
		"Nearest": func(a api.Rat) lists { return lists{halves(near.Nearest(a))} },
		"Single":  func(a api.Rat) lists { return lists{{math.Float32bits(near.Single(a))}} },
		"Around": func(a api.Rat) lists {
			low, high := near.Around(a)
			return lists{halves(low), halves(high)}
		},
		"Of": func(a api.Rat) lists {
			var got lists
			for _, f := range []float64{0, 1, -1, 0.75, 1e20, -1e-20} {
				x, _ := near.Of(f)
				y, _ := near.Of(float32(f))
				got = append(got, x.Num.Mag, x.Den, y.Num.Mag, y.Den)
			}
			return got
		},
	}
}

func TestMemory(t *testing.T) {
	marks := samples.Marks[uint32]{Spare: 0xdeadbeef, Ink: 0x55aa55aa}
	for what, call := range calls() {
		for _, a := range fractions() {
			ofLimbs := func(in lists) lists { return call(long(a.Num.Neg, in[0], in[1])) }
			if wrong := samples.Alone(ofLimbs, lists{a.Num.Mag, a.Den}, marks); wrong != "" {
				t.Fatalf("%s of %v: %s", what, a, wrong)
			}
			twice := func(in lists) lists { return call(long(a.Num.Neg, in[0], in[0])) }
			if wrong := samples.Alone(twice, lists{a.Num.Mag}, marks); wrong != "" {
				t.Fatalf("%s of %v over itself: %s", what, a.Num, wrong)
			}
		}
	}
}

// zeros are all kinds of fractions that say 0.
func zeros() []api.Rat {
	noughts := []api.Int{{}, {Mag: api.Nat{0, 0}}, {Neg: true}, {Neg: true, Mag: api.Nat{0}}}
	return samples.Rats(noughts, []api.Nat{nil, {}, {0, 0}, {1}, {5, 0}, {0, 1}})
}

// TestNotNormal: noughts ahead, a negative 0, common divisors, nil or no limbs
// say nothing; and 0 below the stroke says 1.
func TestNotNormal(t *testing.T) {
	for what, call := range calls() {
		for _, a := range append(fractions(), zeros()...) {
			wide := long(a.Num.Neg, slices.Concat(a.Num.Mag, api.Nat{0, 0}), slices.Concat(a.Den, api.Nat{0}))
			if got, want := call(wide), call(frac.Sum(a)); !slices.EqualFunc(got, want, slices.Equal) {
				t.Fatalf("%s of %v: %v, want %v", what, a, got, want)
			}
		}
	}
}

func TestZeros(t *testing.T) {
	for _, a := range zeros() {
		checkNearest(t, a, 0)
		checkSingle(t, a, 0)
		checkAround(t, a, 0, 0)
	}
	checkNearest(t, long(true, api.Nat{3}, nil), -3)
	checkSingle(t, long(true, api.Nat{3}, api.Nat{0}), -3)
	checkAround(t, long(false, api.Nat{3}, api.Nat{0, 0}), 3, 3)
}
