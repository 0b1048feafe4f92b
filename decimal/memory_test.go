package decimal_test

import (
	"slices"
	"strconv"
	"testing"

	"credence/api"
	"credence/decimal"
	"credence/samples"
)

// R3, R4, R5: what is handed in is not changed, what is answered is new memory.

// lists are the limbs of some numbers.
type lists = [][]uint32

// letters are a text's bytes as limbs, so that all answers are alike.
func letters(s string) []uint32 {
	var list []uint32
	for i := range len(s) {
		list = append(list, uint32(s[i]))
	}
	return list
}

// calls are all calls of a fraction, and what they answer.
func calls() map[string]func(a api.Rat) lists {
	return map[string]func(a api.Rat) lists{
		"Round": func(a api.Rat) lists {
			s, e := decimal.Round(a, 7)
			return lists{letters(s), {uint32(e)}}
		},
		"Exact": func(a api.Rat) lists {
			s, ok := decimal.Exact(a)
			return lists{letters(s), letters(strconv.FormatBool(ok))}
		},
		"Period": func(a api.Rat) lists {
			p, q, e := decimal.Period(a, 300)
			return lists{letters(p), letters(q), {uint32(e)}}
		},
		"Parse": func(a api.Rat) lists {
			x, _ := decimal.Parse("-1844674407370955161.6e-3")
			y, _ := decimal.Parse("0")
			z, _ := decimal.Parse("1e20")
			return lists{x.Num.Mag, x.Den, y.Num.Mag, y.Den, z.Num.Mag, z.Den}
		},
	}
}

func TestMemory(t *testing.T) {
	marks := samples.Marks[uint32]{Spare: 0xdeadbeef, Ink: 0x55aa55aa}
	for what, call := range calls() {
		for _, a := range few() {
			ofLimbs := func(in lists) lists { return call(long(a.Num.Neg, in[0], in[1])) }
			if wrong := samples.Alone(ofLimbs, lists{a.Num.Mag, a.Den}, marks); wrong != "" {
				t.Fatalf("%s of %v: %s", what, a, wrong)
			}
			twice := func(in lists) lists { return call(long(a.Num.Neg, in[0], in[0])) }
			if wrong := samples.Alone(twice, lists{a.Num.Mag}, marks); wrong != "" {
				t.Fatalf("%s of %v over itself: %s", what, a.Num, wrong)
			}
		}
	}
}

// TestNotNormal: noughts ahead, a negative 0, common divisors, nil or no limbs
// say nothing; and 0 below the stroke says 1.
func TestNotNormal(t *testing.T) {
	for what, call := range calls() {
		for _, a := range append(few(), zeros()...) {
			wide := long(a.Num.Neg, slices.Concat(a.Num.Mag, api.Nat{0, 0}), slices.Concat(a.Den, api.Nat{0}))
			if got, want := call(wide), call(lowered(a)); !slices.EqualFunc(got, want, slices.Equal) {
				t.Fatalf("%s of %v: %v, want %v", what, a, got, want)
			}
		}
	}
}
