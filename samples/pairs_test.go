package samples_test

import (
	"slices"
	"testing"

	"credence/api"
	"credence/samples"
)

// TestPairs: pairs are in lowest terms, their lower number above 0.
func TestPairs(t *testing.T) {
	half, third := samples.NewPair(-3, -6), samples.NewPair(4, 12)
	for what, c := range map[string]struct{ got, want samples.Pair }{
		"half":        {half, samples.Pair{Num: 1, Den: 2}},
		"third":       {third, samples.Pair{Num: 1, Den: 3}},
		"below 0":     {samples.NewPair(6, -4), samples.Pair{Num: -3, Den: 2}},
		"0":           {samples.NewPair(0, -7), samples.Pair{Num: 0, Den: 1}},
		"plus":        {half.Plus(third), samples.Pair{Num: 5, Den: 6}},
		"minus":       {third.Minus(half), samples.Pair{Num: -1, Den: 6}},
		"times":       {half.Times(third), samples.Pair{Num: 1, Den: 6}},
		"over":        {half.Over(third.Neg()), samples.Pair{Num: -3, Den: 2}},
		"a fraction":  {samples.PairOf(samples.Ratio(-6, 4)), samples.Pair{Num: -3, Den: 2}},
		"over nought": {samples.PairOf(samples.Ratio(5, 0)), samples.Pair{Num: 5, Den: 1}},
		"nothing":     {samples.PairOf(api.Rat{}), samples.Pair{Num: 0, Den: 1}},
	} {
		if c.got != c.want {
			t.Errorf("%s: %v, want %v", what, c.got, c.want)
		}
	}
}

// TestLimbs: fractions are held against each other limb by limb.
func TestLimbs(t *testing.T) {
	a := samples.NewPair(-6, 4).Rat()
	if !samples.SameLimbs(a, samples.Ratio(-3, 2)) || samples.SameLimbs(a, samples.Ratio(3, 2)) || samples.SameLimbs(a, samples.Ratio(-6, 4)) || samples.SameLimbs(a, samples.Ratio(-3, 4)) {
		t.Error("-3/2 is another one")
	}
	if zero := samples.NewPair(0, 5).Rat(); !samples.SameLimbs(zero, api.Rat{Den: api.Nat{1}}) || samples.SameLimbs(zero, api.Rat{}) {
		t.Error("0 is not 0 over 1")
	}
	if got := samples.Limbs(a, samples.Ratio(7, 5)); !slices.EqualFunc(got, [][]uint32{{3}, {2}, {7}, {5}}, slices.Equal) {
		t.Errorf("the limbs are %v", got)
	}
}
